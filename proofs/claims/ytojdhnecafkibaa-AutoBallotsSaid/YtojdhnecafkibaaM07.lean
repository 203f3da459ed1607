/-
  Parts of a proof, one behind the other: LanIs, LanObj, LanNew, LanAsk, LanOn. Each says its own conditions.
-/
import Derived.Test.YtojdhnecafkibaaM06

/- LanIs:
  Whether a state is right, of each kind of object. Conditions: the state's words are words.
-/
namespace Go.Proofs.Ytojdhnecafkibaa.Lan
open Go.RowKit (Below intOf)
open Go.Proofs.Ytojdhnecafkibaa.Aut

theorem canon_q (x : Int) (w : World) (m : Nat) (h : U64 x) : Calls Try.prog 47 #[.int .u64 x] (w.drewN m) fun e w' => e = .returned (.int .u64 (canon x)) ∧ ∃ j, w' = w.drewN j :=
  (canon_any x (w.drewN m) h.1 h.2).mono fun _ _ h => ⟨h.1, m, h.2.symm⟩
/-- A box of a state, behind one more block. -/
theorem box_new (o : Obj) (r : Int) (a v t : Sl) (cl : Bool) (w : World) : Five ((w.alloc o).alloc (sb r a v t cl)) (w.heap.size + 1) r a v t cl ∧ Ext w ((w.alloc o).alloc (sb r a v t cl)) := by
  refine ⟨?_, (Ext.new w o).alloc _⟩
  have hs : (w.alloc o).heap.size = w.heap.size + 1 := by simp
  rw [← hs]; exact five_new (w.alloc o) r a v t cl
theorem fro_new (o : Obj) (r : Int) (a v t : Sl) (cl : Bool) (w : World) (i : Nat) : ((w.alloc o).alloc (sb r a v t cl)).frozen? ⟨w.heap.size + 1, i, none⟩ = false := by
  have hs : (w.alloc o).heap.size = w.heap.size + 1 := by simp
  rw [← hs]; unfold World.frozen?; rw [World.alloc_heap_new]; rfl

set_option maxHeartbeats 1000000 in
set_option maxRecDepth 100000 in
theorem reg_is (a v t : Sl) (s : St) (w : World) (hu : U64 s.reg) :
    Calls Try.prog 45 #[kE, sv s.reg a v t s.closed] w fun e w' => e = .returned (.bool (decide (canon s.reg = s.reg) && bareB 0 a v t s.closed)) ∧ Ext w w' := by
  obtain ⟨ka, kn, kc⟩ := a
  obtain ⟨va, vn, vc⟩ := v
  obtain ⟨ta, tn, tc⟩ := t
  obtain ⟨r, ks, vs, vt, cl⟩ := s
  dsimp only at *
  have HB := Lib.hid (fun W => bare_any 0 ⟨ka, kn, kc⟩ ⟨va, vn, vc⟩ ⟨ta, tn, tc⟩ cl W)
  have HC := Lib.hid (fun W m => canon_q r W m hu)
  dsimp only [sv, sb] at *
  by_cases hc : canon r = r
  · have hc2 : (r == canon r) = true := by simp [hc]
    rw [decide_eq_true hc, Bool.true_and]
    clear hc hu
    generalize canon r = cr at *
    go_enter Try.func45, Try.ntmps45
    go_wp2_with (fail)
    go_quiet (first | (go_at_call 47; exact HC.out _ _))
    go_wp2_with (first | (go_at_call 50; (with_reducible refine (HB.out _).mono ?_); rintro e w' ⟨rfl, rfl⟩))
    go_ret
    refine ⟨rfl, ?_⟩
    repeat (first | exact Ext.refl _ | refine Ext.alloc ?_ _ | refine Ext.drew ?_ | refine Ext.drewN ?_ _ | refine Ext.setCell ?_ (by simp) _)
  · have hc2 : (r == canon r) = false := by simpa using fun e => hc e.symm
    rw [decide_eq_false hc, Bool.false_and]
    clear hc hu
    generalize canon r = cr at *
    go_enter Try.func45, Try.ntmps45
    go_wp2_with (fail)
    go_quiet (first | (go_at_call 47; exact HC.out _ _))
    go_wp2_with (fail)
    go_ret
    refine ⟨rfl, ?_⟩
    repeat (first | exact Ext.refl _ | refine Ext.alloc ?_ _ | refine Ext.drew ?_ | refine Ext.drewN ?_ _ | refine Ext.setCell ?_ (by simp) _)

theorem set_five {w : World} {b i j : Nat} {x y : Value} (h : w.cell? ⟨b, j, none⟩ = some x) (hne : j ≠ i) : (w.setCell ⟨b, i, none⟩ y).cell? ⟨b, j, none⟩ = some x := by rw [set_far hne]; exact h
theorem set_same {w : World} {b i : Nat} {x y : Value} (h : w.cell? ⟨b, i, none⟩ = some x) : (w.setCell ⟨b, i, none⟩ y).cell? ⟨b, i, none⟩ = some y := World.cell?_setCell_same _ _ _ (by rw [h])

set_option maxHeartbeats 1000000 in
set_option maxRecDepth 100000 in
theorem set_is {k : Int} {T : TypeId} {fk fr fl : Nat} (I : KI k T fk fr fl) (m : Int) (a v t : Sl) (s : St) (w : World) (hS : SS w a v t s) :
    Calls Try.prog 61 #[kd T m, sv s.reg a v t s.closed] w fun e w' => e = .returned (.bool (decide ((a.n : Int) ≤ m ∧ Good k s.keys) && bareB s.reg nilSl v t s.closed)) ∧ Ext w w' := by
  obtain ⟨ka, kn, kc⟩ := a
  obtain ⟨va, vn, vc⟩ := v
  obtain ⟨ta, tn, tc⟩ := t
  obtain ⟨r, ks, vs, vt, cl⟩ := s
  obtain ⟨_, hK, _, _⟩ := hS
  dsimp only at *
  have HB := Lib.hid (fun W => bare_any r nilSl ⟨va, vn, vc⟩ ⟨ta, tn, tc⟩ cl W)
  obtain ⟨⟨g0, g1, g2, g3, g4⟩, hX⟩ := box_new (kbt 79 T m) r ⟨ka, kn, kc⟩ ⟨va, vn, vc⟩ ⟨ta, tn, tc⟩ cl w
  have gf := fro_new (kbt 79 T m) r ⟨ka, kn, kc⟩ ⟨va, vn, vc⟩ ⟨ta, tn, tc⟩ cl w 1
  have HA := Lib.hid (are_any I m ka kn kc ks _ (hK.ext hX))
  generalize decide ((kn : Int) ≤ m ∧ Good k ks) = D at *
  have X0 := Lib.hid hX
  clear hK hX I
  dsimp only [sv, sb, kd, kb, kbt] at *
  cases D
  all_goals
    go_enter Try.func61, Try.ntmps61
    go_wp2_with (first
      | (go_at_call 70; (with_reducible refine HA.out.mono ?_); rintro e w1 ⟨rfl, hE⟩; have f1 := (hE.frozen g1).trans gf; replace g0 := hE.cell g0; replace g1 := hE.cell g1; replace g2 := hE.cell g2; replace g3 := hE.cell g3; replace g4 := hE.cell g4; have X1 : RowKit.Hid (Ext w w1) := Lib.hid (X0.out.trans hE); clear hE HA X0 gf)
      | (go_at_call 50; (with_reducible refine (HB.out _).mono ?_); rintro e w' ⟨rfl, rfl⟩))
    go_ret
    refine ⟨by simp, ?_⟩
    repeat (first | exact X1.out | refine Ext.alloc ?_ _ | refine Ext.setCell ?_ (Nat.le_succ _) _)

set_option maxHeartbeats 1000000 in
set_option maxRecDepth 100000 in
theorem table_is {k : Int} {T : TypeId} {fk fr fl : Nat} (I : KI k T fk fr fl) (m : Int) (a v t : Sl) (s : St) (w : World) (hS : SS w a v t s) :
    Calls Try.prog 87 #[kd T m, sv s.reg a v t s.closed] w fun e w' => e = .returned (.bool ((decide ((a.n : Int) ≤ m ∧ Good k s.keys) && decide (v.n = a.n)) && bareB s.reg nilSl nilSl t s.closed)) ∧ Ext w w' := by
  obtain ⟨ka, kn, kc⟩ := a
  obtain ⟨va, vn, vc⟩ := v
  obtain ⟨ta, tn, tc⟩ := t
  obtain ⟨r, ks, vs, vt, cl⟩ := s
  obtain ⟨_, hK, _, _⟩ := hS
  dsimp only at *
  have HB := Lib.hid (fun W => bare_any r nilSl nilSl ⟨ta, tn, tc⟩ cl W)
  obtain ⟨⟨g0, g1, g2, g3, g4⟩, hX⟩ := box_new (kbt 80 T m) r ⟨ka, kn, kc⟩ ⟨va, vn, vc⟩ ⟨ta, tn, tc⟩ cl w
  have gf := fro_new (kbt 80 T m) r ⟨ka, kn, kc⟩ ⟨va, vn, vc⟩ ⟨ta, tn, tc⟩ cl w 1
  have gf2 := fro_new (kbt 80 T m) r ⟨ka, kn, kc⟩ ⟨va, vn, vc⟩ ⟨ta, tn, tc⟩ cl w 2
  have HA := Lib.hid (are_any I m ka kn kc ks _ (hK.ext hX))
  generalize decide ((kn : Int) ≤ m ∧ Good k ks) = D at *
  have X0 := Lib.hid hX
  clear hK hX I
  have hc : ((vn : Int) == (kn : Int)) = decide (vn = kn) := by by_cases h : vn = kn <;> simp [h]; omega
  generalize decide (vn = kn) = C at *
  dsimp only [sv, sb, kd, kb, kbt] at *
  cases C
  all_goals
    cases D
    all_goals
      go_enter Try.func87, Try.ntmps87
      go_wp2_with (first
        | (go_at_call 70; (with_reducible refine HA.out.mono ?_); rintro e w1 ⟨rfl, hE⟩; have f1 := (hE.frozen g1).trans gf; have f2 := (hE.frozen g2).trans gf2; replace g0 := hE.cell g0; replace g1 := hE.cell g1; replace g2 := hE.cell g2; replace g3 := hE.cell g3; replace g4 := hE.cell g4; have X1 : RowKit.Hid (Ext w w1) := Lib.hid (X0.out.trans hE); clear hE HA X0 gf gf2)
        | (go_at_call 50; (with_reducible refine (HB.out _).mono ?_); rintro e w' ⟨rfl, rfl⟩))
      go_ret
      refine ⟨by simp, ?_⟩
      repeat (first | exact X1.out | refine Ext.alloc ?_ _ | refine Ext.setCell ?_ (Nat.le_succ _) _)

/-- The votes ahead of a place are as they may be. -/
def VotesTo (vs : List Int) (i : Nat) : Bool := decide (∀ v ∈ vs.take i, 0 ≤ v ∧ v ≤ 8)
theorem votesTo_succ {vs : List Int} {i : Nat} {y : Int} (h : vs[i]? = some y) : VotesTo vs (i + 1) = (VotesTo vs i && decide (0 ≤ y ∧ y ≤ 8)) := by
  rw [Bool.eq_iff_iff]
  simp only [VotesTo, Bool.and_eq_true, decide_eq_true_iff, take_snoc h]
  constructor
  · exact fun q => ⟨fun v hv => q v (List.mem_append_left _ hv), q y (List.mem_append_right _ (List.mem_singleton.2 rfl))⟩
  · intro q v hv
    rcases List.mem_append.1 hv with hv | hv
    · exact q.1 v hv
    · rw [List.mem_singleton.1 hv]; exact q.2
abbrev bbx (m : Int) : Obj := .cells #[.int .i64 m] 83

set_option maxHeartbeats 2000000 in
set_option maxRecDepth 100000 in
theorem ballot_is (m : Int) (a v t : Sl) (s : St) (w : World) (hS : SS w a v t s) :
    Calls Try.prog 97 #[.agg #[.int .i64 m], sv s.reg a v t s.closed] w fun e w' => e = .returned (.bool ((decide ((t.n : Int) = m) && VotesTo s.votes t.n) && bareB s.reg a v nilSl false)) ∧ Ext w w' := by
  obtain ⟨ka, kn, kc⟩ := a
  obtain ⟨va, vn, vc⟩ := v
  obtain ⟨ta, n, tc⟩ := t
  obtain ⟨r, ks, vs, vt, cl⟩ := s
  obtain ⟨_, _, _, hT⟩ := hS
  dsimp only at *
  have hn := hT.le
  have HB := Lib.hid (fun W => bare_any r ⟨ka, kn, kc⟩ ⟨va, vn, vc⟩ nilSl false W)
  obtain ⟨⟨g0, g1, g2, g3, g4⟩, hX⟩ := box_new (bbx m) r ⟨ka, kn, kc⟩ ⟨va, vn, vc⟩ ⟨ta, n, tc⟩ cl w
  have gf := fro_new (bbx m) r ⟨ka, kn, kc⟩ ⟨va, vn, vc⟩ ⟨ta, n, tc⟩ cl w 3
  have gf2 := fro_new (bbx m) r ⟨ka, kn, kc⟩ ⟨va, vn, vc⟩ ⟨ta, n, tc⟩ cl w 4
  have gm : ((w.alloc (bbx m)).alloc (sb r ⟨ka, kn, kc⟩ ⟨va, vn, vc⟩ ⟨ta, n, tc⟩ cl)).cell? ⟨w.heap.size, 0, none⟩ = some (.int .i64 m) := box_alloc (by unfold World.cell?; rw [World.alloc_heap_new]; rfl)
  have X0 := Lib.hid hX
  have HT := Lib.hid (hT.ext hX)
  have hc : ((n : Int) == m) = decide ((n : Int) = m) := by by_cases h : (n : Int) = m <;> simp [h]
  have v0 : VotesTo vt 0 = true := by simp [VotesTo]
  generalize decide ((n : Int) = m) = D at *
  have VS : RowKit.Hid (∀ i y, vt[i]? = some y → VotesTo vt (i + 1) = (VotesTo vt i && decide (0 ≤ y ∧ y ≤ 8))) := Lib.hid fun i y h => votesTo_succ h
  generalize VotesTo vt = V at *
  clear hT hX
  dsimp only [sv, sb, bbx] at *
  go_enter Try.func97, Try.ntmps97
  go_wp2_with (fail)
  go_loopg [5, 17] n (fun kx s5 s17 wr => wr = ((w.alloc (.cells #[.int .i64 m] 83)).alloc (.cells #[.int .u64 r, .slice ka kn kc, .slice va vn vc, .slice ta n tc, .bool cl] 31)) ∧ ∃ i : Nat, s17 = .int .i64 i ∧ i ≤ n ∧ n - i ≤ kx ∧ s5 = .bool (D && V i))
  case atStart => exact ⟨rfl, 0, rfl, Nat.zero_le _, by omega, by rw [v0, Bool.and_true]⟩
  case round =>
    obtain ⟨rfl, i, rfl, hi, hg, rfl⟩ := hrel
    by_cases hlt : i < n
    · have hlt2 : (i : Int) < n := by omega
      obtain ⟨y, hy, hyu, b, o, rfl, hyc⟩ := HT.out.get hlt
      have hv := Lib.hid (VS.out i y hy)
      clear hy VS
      generalize hq : (D && V i) = Q at *
      have HQ := Lib.hid hq
      clear hq
      cases Q
      · go_wp2_with (fail)
        go_roundg (n - (i + 1))
        case measure => omega
        case rel => exact ⟨rfl, i + 1, by first | rfl | (congr 1; omega), by omega, by omega, by rw [hv.out, ← Bool.and_assoc, HQ.out]; rfl⟩
      · by_cases y0 : 0 ≤ y
        · have y0' : decide (y ≥ 0) = true := decide_eq_true y0
          by_cases y8 : y ≤ 8
          · go_wp2_with (fail)
            go_roundg (n - (i + 1))
            case measure => omega
            case rel => exact ⟨rfl, i + 1, by first | rfl | (congr 1; omega), by omega, by omega, by rw [hv.out, ← Bool.and_assoc, HQ.out]; simp [y0, y8]⟩
          · go_wp2_with (fail)
            go_roundg (n - (i + 1))
            case measure => omega
            case rel => exact ⟨rfl, i + 1, by first | rfl | (congr 1; omega), by omega, by omega, by rw [hv.out, ← Bool.and_assoc, HQ.out]; simp [y0, y8]⟩
        · go_wp2_with (fail)
          go_roundg (n - (i + 1))
          case measure => omega
          case rel => exact ⟨rfl, i + 1, by first | rfl | (congr 1; omega), by omega, by omega, by rw [hv.out, ← Bool.and_assoc, HQ.out]; simp; omega⟩
    · obtain rfl : i = n := by omega
      have hlt2 : ¬ (i : Int) < i := by omega
      generalize hq : (D && V i) = Q at *
      have HQ := Lib.hid hq
      clear HT VS hq
      cases Q
      all_goals
        go_wp2_with (first
          | (go_at_call 50; (with_reducible refine (HB.out _).mono ?_); rintro e w' ⟨rfl, rfl⟩))
        go_ret
        refine ⟨by rw [HQ.out]; simp, ?_⟩
        repeat (first | exact X0.out | exact Ext.refl _ | refine Ext.alloc ?_ _ | refine Ext.setCell ?_ (Nat.le_succ _) _)

end Go.Proofs.Ytojdhnecafkibaa.Lan

/- LanObj:
  Objects as values of an interface: which one there is of a configuration, and Right. Conditions: the state's words are words.
-/
namespace Go.Proofs.Ytojdhnecafkibaa.Lan
open Go.RowKit (Below intOf)
open Go.Proofs.Ytojdhnecafkibaa.Aut
open Go.Proofs.Ytojdhnecafkibaa.Reg (cf bx fits_any)

def oT (k : Int) : TypeId := if k = 1 then 72 else if k = 2 then 79 else if k = 3 ∨ k = 4 then 80 else 83
def oV (k m : Int) : Value := if k = 1 then kE else if k = 2 ∨ k = 3 ∨ k = 4 then kd (kT k) m else .agg #[.int .i64 m]

set_option maxHeartbeats 1000000 in
set_option maxRecDepth 100000 in
theorem object_any (k p m : Int) (w : World) : Calls Try.prog 16 #[cf k p m] w fun e w' => e = .returned (.iface (oT k) (oV k m)) ∧ w' = w.alloc (bx k p m) := by
  have hs : ∀ x : Int, k ≠ x → (k == x) = false := fun x h => by simpa using h
  by_cases h1 : k = 1
  · subst h1
    go_enter Try.func16, Try.ntmps16
    go_wp2_with (fail)
    go_ret
    exact ⟨rfl, rfl⟩
  by_cases h2 : k = 2
  · subst h2
    go_enter Try.func16, Try.ntmps16
    go_wp2_with (fail)
    go_ret
    exact ⟨rfl, rfl⟩
  by_cases h3 : k = 3
  · subst h3
    go_enter Try.func16, Try.ntmps16
    go_wp2_with (fail)
    go_ret
    exact ⟨rfl, rfl⟩
  by_cases h4 : k = 4
  · subst h4
    go_enter Try.func16, Try.ntmps16
    go_wp2_with (fail)
    go_ret
    exact ⟨rfl, rfl⟩
  have b1 := hs 1 h1
  have b2 := hs 2 h2
  have b3 := hs 3 h3
  have b4 := hs 4 h4
  have e1 : oT k = 83 := by unfold oT; rw [if_neg h1, if_neg h2, if_neg (by omega)]
  have e2 : oV k m = .agg #[.int .i64 m] := by unfold oV; rw [if_neg h1, if_neg (by omega)]
  rw [e1, e2]
  clear e1 e2 h1 h2 h3 h4 hs
  go_enter Try.func16, Try.ntmps16
  go_wp2_with (fail)
  go_ret
  exact ⟨rfl, rfl⟩

theorem ss_lens {w : World} {a v t : Sl} {s : St} (h : SS w a v t s) : s.keys.length = a.n ∧ s.vals.length = v.n ∧ s.votes.length = t.n := ⟨h.2.1.len, h.2.2.1.len, h.2.2.2.len⟩
theorem bare_iff {w : World} {a v t : Sl} {s : St} (h : SS w a v t s) (r : Int) (cl : Bool) :
    (bareB r a v t cl = true ↔ r = 0 ∧ s.keys = [] ∧ s.vals = [] ∧ s.votes = [] ∧ cl = false) ∧ (bareB r nilSl v t cl = true ↔ r = 0 ∧ s.vals = [] ∧ s.votes = [] ∧ cl = false) ∧ (bareB r nilSl nilSl t cl = true ↔ r = 0 ∧ s.votes = [] ∧ cl = false) ∧
      (bareB r a v nilSl cl = true ↔ r = 0 ∧ s.keys = [] ∧ s.vals = [] ∧ cl = false) := by
  obtain ⟨h1, h2, h3⟩ := ss_lens h
  simp only [bareB, Bool.and_eq_true, decide_eq_true_iff, Bool.not_eq_true', ← h1, ← h2, ← h3, List.length_eq_zero_iff, true_and, and_self]

theorem right_1 {p m : Int} {w : World} {a v t : Sl} {s : St} (hf : fits 1 p m = true) (h : SS w a v t s) : (decide (canon s.reg = s.reg) && bareB 0 a v t s.closed) = rightS 1 p m s := by
  rw [Bool.eq_iff_iff, right_iff, Bool.and_eq_true, (bare_iff h 0 s.closed).1, decide_eq_true_iff]
  unfold ElseOk keyed
  simp [hf]
  constructor
  · rintro ⟨h1, h2, h3, h4, h5⟩; exact ⟨⟨⟨h2, h3⟩, h4, h5⟩, h1⟩
  · rintro ⟨⟨⟨h2, h3⟩, h4, h5⟩, h1⟩; exact ⟨h1, h2, h3, h4, h5⟩
theorem right_2 {p m : Int} {w : World} {a v t : Sl} {s : St} (hf : fits 2 p m = true) (h : SS w a v t s) : (decide ((a.n : Int) ≤ m ∧ Good 2 s.keys) && bareB s.reg nilSl v t s.closed) = rightS 2 p m s := by
  rw [Bool.eq_iff_iff, right_iff, Bool.and_eq_true, (bare_iff h s.reg s.closed).2.1, decide_eq_true_iff, ← (ss_lens h).1]
  unfold ElseOk keyed KeysOk valued Good
  simp [hf]
  constructor
  · rintro ⟨⟨h1, h2, h3⟩, h4, h5, h6, h7⟩; exact ⟨⟨h4, h6, h7⟩, h1, h5, h2, h3⟩
  · rintro ⟨⟨h4, h6, h7⟩, h1, h5, h2, h3⟩; exact ⟨⟨h1, h2, h3⟩, h4, h5, h6, h7⟩
theorem right_34 {k p m : Int} {w : World} {a v t : Sl} {s : St} (hk : k = 3 ∨ k = 4) (hf : fits k p m = true) (h : SS w a v t s) : ((decide ((a.n : Int) ≤ m ∧ Good k s.keys) && decide (v.n = a.n)) && bareB s.reg nilSl nilSl t s.closed) = rightS k p m s := by
  obtain ⟨l1, l2, l3⟩ := ss_lens h
  rw [Bool.eq_iff_iff, right_iff, Bool.and_eq_true, Bool.and_eq_true, (bare_iff h s.reg s.closed).2.2.1, decide_eq_true_iff, decide_eq_true_iff, ← l1, ← l2]
  have k1 : k ≠ 1 := by omega
  have k5 : k ≠ 5 := by omega
  have kk : keyed k = true := by unfold keyed; exact decide_eq_true (by omega)
  have kv : valued k = true := by unfold valued; exact decide_eq_true hk
  unfold ElseOk KeysOk Good
  simp [hf, k1, k5, kk, kv]
  constructor
  · rintro ⟨⟨⟨h1, h2, h3⟩, h4⟩, h5, h6, h7⟩; exact ⟨⟨h5, h6, h7⟩, h1, h4, h2, h3⟩
  · rintro ⟨⟨h5, h6, h7⟩, h1, h4, h2, h3⟩; exact ⟨⟨⟨h1, h2, h3⟩, h4⟩, h5, h6, h7⟩
theorem right_5 {p m : Int} {w : World} {a v t : Sl} {s : St} (hf : fits 5 p m = true) (h : SS w a v t s) : ((decide ((t.n : Int) = m) && VotesTo s.votes t.n) && bareB s.reg a v nilSl false) = rightS 5 p m s := by
  obtain ⟨l1, l2, l3⟩ := ss_lens h
  rw [Bool.eq_iff_iff, right_iff, Bool.and_eq_true, Bool.and_eq_true, (bare_iff h s.reg false).2.2.2, decide_eq_true_iff, ← l3]
  unfold ElseOk keyed VotesOk VotesTo
  rw [List.take_length, decide_eq_true_iff]
  simp [hf]
  constructor
  · rintro ⟨⟨h1, h2⟩, h3, h4, h5⟩; exact ⟨⟨h3, h4, h5⟩, h1, h2⟩
  · rintro ⟨⟨h3, h4, h5⟩, h1, h2⟩; exact ⟨⟨h1, h2⟩, h3, h4, h5⟩

/-- How an object is asked whether a state is right. -/
def IsI (k p m : Int) (T : TypeId) (V : Value) (f : Nat) (V' : Value) : Prop :=
  (∀ w, Sem.run Try.prog (method 237 T V "whitewash/auto.isRight") w = .ok (f, V') w) ∧ (∀ a w, Sem.run Try.prog (callFunc f #[V', a]) w = .ok (.enter f #[V', a]) w) ∧
    ∀ a v t s w, SS w a v t s → Calls Try.prog f #[V', sv s.reg a v t s.closed] w fun e w' => e = .returned (.bool (rightS k p m s)) ∧ Ext w w'
theorem kinds {k p m : Int} (h : fits k p m = true) : k = 1 ∨ k = 2 ∨ k = 3 ∨ k = 4 ∨ k = 5 := by have := fits_of h; omega
theorem is_obj {k p m : Int} (hf : fits k p m = true) : ∃ f V', IsI k p m (oT k) (oV k m) f V' := by
  rcases kinds hf with rfl | rfl | rfl | rfl | rfl
  · exact ⟨45, kE, fun w => by kernel_rfl, fun a w => by kernel_rfl, fun a v t s w hS => (reg_is a v t s w hS.1).mono fun e w' h => ⟨by rw [h.1, right_1 hf hS], h.2⟩⟩
  · obtain ⟨fk, fr, fl, I⟩ := keys_is 2
    exact ⟨61, kd (kT 2) m, fun w => by kernel_rfl, fun a w => by kernel_rfl, fun a v t s w hS => (set_is I m a v t s w hS).mono fun e w' h => ⟨by rw [h.1, right_2 hf hS], h.2⟩⟩
  · obtain ⟨fk, fr, fl, I⟩ := keys_is 3
    exact ⟨87, kd (kT 3) m, fun w => by kernel_rfl, fun a w => by kernel_rfl, fun a v t s w hS => (table_is I m a v t s w hS).mono fun e w' h => ⟨by rw [h.1, right_34 (.inl rfl) hf hS], h.2⟩⟩
  · obtain ⟨fk, fr, fl, I⟩ := keys_is 4
    exact ⟨87, kd (kT 4) m, fun w => by kernel_rfl, fun a w => by kernel_rfl, fun a v t s w hS => (table_is I m a v t s w hS).mono fun e w' h => ⟨by rw [h.1, right_34 (.inr rfl) hf hS], h.2⟩⟩
  · exact ⟨97, .agg #[.int .i64 m], fun w => by kernel_rfl, fun a w => by kernel_rfl, fun a v t s w hS => (ballot_is m a v t s w hS).mono fun e w' h => ⟨by rw [h.1, right_5 hf hS], h.2⟩⟩

set_option maxHeartbeats 1000000 in
set_option maxRecDepth 100000 in
theorem right_any (k p m : Int) (a v t : Sl) (s : St) (w : World) (hS : SS w a v t s) : Calls Try.prog 13 #[cf k p m, sv s.reg a v t s.closed] w fun e w' => e = .returned (.bool (rightS k p m s)) ∧ Ext w w' := by
  obtain ⟨HT, HF, HX⟩ := both_new w k p m s.reg a v t s.closed
  have HFi := Lib.hid (fun W => fits_any k p m W)
  have X0 := Lib.hid HX
  obtain ⟨t0, t1, t2⟩ := HT
  obtain ⟨f0, f1, f2, f3, f4⟩ := HF
  by_cases hf : fits k p m = true
  · obtain ⟨f, V', m1, m2, m3⟩ := is_obj hf
    have HO := Lib.hid (fun W => object_any k p m W)
    have HC : RowKit.Hid (∀ W, Ext w W → Calls Try.prog f #[V', sv s.reg a v t s.closed] W fun e w' => e = .returned (.bool (rightS k p m s)) ∧ Ext W w') := Lib.hid fun W hE => m3 a v t s W (hS.ext hE)
    have hf' : Reg.fits k p m = true := hf
    rw [hf'] at HFi
    generalize rightS k p m s = R at *
    generalize oT k = OT at *
    generalize oV k m = OV at *
    obtain ⟨r, ks, vs, vt, cl⟩ := s
    obtain ⟨ka, kn, kc⟩ := a
    obtain ⟨va, vn, vc⟩ := v
    obtain ⟨ta, tn, tc⟩ := t
    clear hS HX m3 hf hf'
    dsimp only [sv, sb, cf, bx] at *
    go_enter Try.func13, Try.ntmps13
    go_wp2_with (fail)
    go_region_held3 (fun w' => (w'.cell? ⟨w.heap.size, 0, none⟩ = some (.int .i64 k) ∧ w'.cell? ⟨w.heap.size, 1, none⟩ = some (.int .i64 p) ∧ w'.cell? ⟨w.heap.size, 2, none⟩ = some (.int .i64 m)) ∧ w'.cell? ⟨w.heap.size + 1, 0, none⟩ = some (.int .u64 r) ∧ w'.cell? ⟨w.heap.size + 1, 1, none⟩ = some (.slice ka kn kc) ∧ w'.cell? ⟨w.heap.size + 1, 2, none⟩ = some (.slice va vn vc) ∧ w'.cell? ⟨w.heap.size + 1, 3, none⟩ = some (.slice ta tn tc) ∧ w'.cell? ⟨w.heap.size + 1, 4, none⟩ = some (.bool cl))
      (repeat' (first | (with_reducible assumption) | (with_reducible refine And.intro ?_ ?_) | (with_reducible refine box_alloc ?_) | (with_reducible refine box_drew ?_) | (with_reducible refine Ext.cell ‹_› ?_)))
      (first
        | (go_at_call 15; (with_reducible refine (HFi.out _).mono ?_); rintro e w' ⟨rfl, rfl⟩)
        | (go_at_call 16; (with_reducible refine (HO.out _).mono ?_); rintro e w' ⟨rfl, rfl⟩)
        | (go_at_fn f; (with_reducible refine (HC.out _ (by repeat (first | exact X0.out | refine Ext.alloc ?_ _ | refine Ext.drew ?_))).mono ?_); rintro e w' ⟨rfl, hE⟩))
    have hE2 : Ext w w' := Ext.trans (by repeat (first | exact X0.out | refine Ext.alloc ?_ _ | refine Ext.drew ?_)) hE
    replace hE2 := Lib.hid hE2
    clear hE
    go_wp2_with (fail)
    go_ret
    exact ⟨rfl, hE2.out⟩
  · have hr : rightS k p m s = false := by
      cases h : rightS k p m s with
      | false => rfl
      | true => exact absurd (right_fits h) hf
    have hf' : Reg.fits k p m = false := Bool.eq_false_iff.2 hf
    rw [hf'] at HFi
    rw [hr]
    have k08 := And.intro (And.intro t0 (And.intro t1 t2)) (And.intro f0 (And.intro f1 (And.intro f2 (And.intro f3 f4))))
    obtain ⟨r, ks, vs, vt, cl⟩ := s
    obtain ⟨ka, kn, kc⟩ := a
    obtain ⟨va, vn, vc⟩ := v
    obtain ⟨ta, tn, tc⟩ := t
    clear hS HX hf hf' hr
    dsimp only [sv, sb, cf, bx] at *
    go_enter Try.func13, Try.ntmps13
    go_wp2_with (fail)
    refine wp_region_held_drew (S := fun w' => (w'.cell? ⟨w.heap.size, 0, none⟩ = some (.int .i64 k) ∧ w'.cell? ⟨w.heap.size, 1, none⟩ = some (.int .i64 p) ∧ w'.cell? ⟨w.heap.size, 2, none⟩ = some (.int .i64 m)) ∧ w'.cell? ⟨w.heap.size + 1, 0, none⟩ = some (.int .u64 r) ∧ w'.cell? ⟨w.heap.size + 1, 1, none⟩ = some (.slice ka kn kc) ∧ w'.cell? ⟨w.heap.size + 1, 2, none⟩ = some (.slice va vn vc) ∧ w'.cell? ⟨w.heap.size + 1, 3, none⟩ = some (.slice ta tn tc) ∧ w'.cell? ⟨w.heap.size + 1, 4, none⟩ = some (.bool cl)) (by kernel_rfl) k08 (fun hHeld => ?_)
    refine wpAnyH_take (i := 0) (v := .agg #[.int .i64 k, .int .i64 p, .int .i64 m]) rfl (by kernel_rfl) (by kernel_rfl) (by kernel_rfl) (fun _ _ _ h => h) (Or.inl ⟨by rfl, ?_⟩) (by assumption) ?_
    · rintro w ⟨⟨h1, h2, h3⟩, h4, h5, h6, h7, h8⟩
      go_simp
    refine wpAnyH_ready (rs := [1]) (by kernel_rfl) (by simp) ?_
    refine AllReadyH.cons rfl (fun K hK => ?_) AllReadyH.nil
    go_simp
    refine (HFi.out _).mono ?_
    rintro e w' ⟨rfl, rfl⟩
    refine hK.out _ _ (by repeat' (first | (with_reducible assumption) | (with_reducible refine And.intro ?_ ?_) | (with_reducible refine box_alloc ?_) | (with_reducible refine box_drew ?_))) (fun hHeld => ?_)
    clear hK K
    refine wpAnyH_take (i := 2) (v := .bool false) rfl (by kernel_rfl) (by kernel_rfl) (by kernel_rfl) (fun _ _ _ h => h) (Or.inl ⟨by rfl, ?_⟩) (by assumption) ?_
    · rintro w ⟨⟨h1, h2, h3⟩, h4, h5, h6, h7, h8⟩
      go_simp
    refine wpAnyH_take (i := 3) (v := undef) rfl (by kernel_rfl) (by kernel_rfl) (by kernel_rfl) (fun _ _ _ h => h) (Or.inr ⟨by rfl, rfl⟩) (by assumption) ?_
    refine wpAnyH_take (i := 4) (v := undef) rfl (by kernel_rfl) (by kernel_rfl) (by kernel_rfl) (fun _ _ _ h => h) (Or.inr ⟨by rfl, rfl⟩) (by assumption) ?_
    refine wpAnyH_take (i := 5) (v := undef) rfl (by kernel_rfl) (by kernel_rfl) (by kernel_rfl) (fun _ _ _ h => h) (Or.inr ⟨by rfl, rfl⟩) (by assumption) ?_
    refine wpAnyH_take (i := 6) (v := undef) rfl (by kernel_rfl) (by kernel_rfl) (by kernel_rfl) (fun _ _ _ h => h) (Or.inr ⟨by rfl, rfl⟩) (by assumption) ?_
    refine wpAnyH_take (i := 7) (v := .bool false) rfl (by kernel_rfl) (by kernel_rfl) (by kernel_rfl) (fun _ _ _ h => h) (Or.inl ⟨by rfl, ?_⟩) (by assumption) ?_
    · rintro w ⟨⟨h1, h2, h3⟩, h4, h5, h6, h7, h8⟩
      go_simp
    refine wpAnyH_take (i := 8) (v := .bool false) rfl (by kernel_rfl) (by kernel_rfl) (by kernel_rfl) (fun _ _ _ h => h) (Or.inl ⟨by rfl, ?_⟩) (by assumption) ?_
    · rintro w ⟨⟨h1, h2, h3⟩, h4, h5, h6, h7, h8⟩
      go_simp
    refine wpAnyH_done (by kernel_rfl) ?_ _
    go_wp2_with (fail)
    go_ret
    exact ⟨rfl, by repeat (first | exact X0.out | refine Ext.alloc ?_ _ | refine Ext.drew ?_)⟩

end Go.Proofs.Ytojdhnecafkibaa.Lan

/- LanNew:
  New, Reads, and why nothing is done to a state. Conditions: the state's words are words.
-/
namespace Go.Proofs.Ytojdhnecafkibaa.Lan
open Go.RowKit (Below intOf)
open Go.Proofs.Ytojdhnecafkibaa.Aut
open Go.Proofs.Ytojdhnecafkibaa.Reg (cf bx fits_any)

/-- A state that lies apart from all that was. -/
def NE (s : St) (w : World) (e : Ending) (w' : World) : Prop := Ext w w' ∧ ∃ k v t, e = .returned (sv s.reg k v t s.closed) ∧ SS w' k v t s ∧ ∀ B, B < w.heap.size → OffS k v t B
theorem offS_nil (B : Nat) : OffS nilSl nilSl nilSl B := ⟨fun h => absurd h (Nat.lt_irrefl 0), fun h => absurd h (Nat.lt_irrefl 0), fun h => absurd h (Nat.lt_irrefl 0)⟩
theorem ne_zero {w w' : World} (h : Ext w w') : NE zeroS w (.returned (sv 0 nilSl nilSl nilSl false)) w' := ⟨h, nilSl, nilSl, nilSl, rfl, ss_zero _, fun B _ => offS_nil B⟩
/-- A state's box, whatever stands in it, that may be written. -/
structure Bx (w : World) (B : Nat) : Prop where
  c : ∃ r k v t cl, Five w B r k v t cl
  f : ∀ i, w.frozen? ⟨B, i, none⟩ = false
theorem Bx.ext {w w' : World} {B : Nat} (h : Bx w B) (e : Ext w w') : Bx w' B := by
  obtain ⟨r, k, v, t, cl, h5⟩ := h.c
  exact ⟨⟨r, k, v, t, cl, h5.ext e⟩, fun i => by
    have hb := World.block_lt_of_cell? w _ h5.1
    exact (Below.frozen (p := ⟨B, i, none⟩) e hb).trans (h.f i)⟩
theorem bx_new (o : Obj) (r : Int) (a v t : Sl) (cl : Bool) (w : World) : Bx ((w.alloc o).alloc (sb r a v t cl)) (w.heap.size + 1) := ⟨⟨_, _, _, _, _, (box_new o r a v t cl w).1⟩, fun i => fro_new o r a v t cl w i⟩
theorem SS.put5 {w : World} {k v t : Sl} {s : St} (h : SS w k v t s) {B : Nat} (hb : OffS k v t B) (r : Int) (k2 v2 t2 : Sl) (cl : Bool) : SS (put5 w B r k2 v2 t2 cl) k v t s :=
  ((((h.set hb _ _).set hb _ _).set hb _ _).set hb _ _).set hb _ _

set_option maxHeartbeats 1000000 in
set_option maxRecDepth 100000 in
theorem rfirst_any (w : World) : Calls Try.prog 44 #[kE] w (NE zeroS w) := by
  go_enter Try.func44, Try.ntmps44
  go_wp2_with (fail)
  refine bodyPost_ret (v := sv 0 nilSl nilSl nilSl false) (by simp [results, Try.results44, go_sem]) rfl ?_
  exact ne_zero (by repeat (first | exact Ext.refl _ | refine Ext.alloc ?_ _ | refine Ext.setCell ?_ (by simp) _))
set_option maxHeartbeats 1000000 in
set_option maxRecDepth 100000 in
theorem kfirst_any (T : TypeId) (m : Int) (w : World) : Calls Try.prog 57 #[kd T m] w (NE zeroS w) := by
  go_enter Try.func57, Try.ntmps57
  go_wp2_with (fail)
  refine bodyPost_ret (v := sv 0 nilSl nilSl nilSl false) (by simp [results, Try.results57, go_sem]) rfl ?_
  exact ne_zero (by repeat (first | exact Ext.refl _ | refine Ext.alloc ?_ _ | refine Ext.setCell ?_ (by simp) _))
set_option maxHeartbeats 1000000 in
set_option maxRecDepth 100000 in
theorem bfirst_any (n : Nat) (hn : n ≤ 256) (w : World) : Calls Try.prog 96 #[.agg #[.int .i64 (n : Int)]] w (NE ⟨0, [], [], List.replicate n 0, false⟩ w) := by
  have hmk := fun W => make_ints n (by omega) W
  go_enter Try.func96, Try.ntmps96
  go_wp2_with (fail)
  refine bodyPost_ret (v := sv 0 nilSl nilSl ⟨some ⟨w.heap.size + 1 + 1, 0, none⟩, n, n⟩ false) (by simp [results, Try.results96, go_sem]) rfl ?_
  refine ⟨by repeat (first | exact Ext.refl _ | refine Ext.alloc ?_ _ | refine Ext.setCell ?_ (by simp) _), nilSl, nilSl, _, rfl, ⟨by unfold U64; simp, WS.empty _ _ _ (by decide), WS.empty _ _ _ (by decide), ?_⟩, fun B hB => ⟨(offS_nil B).1, (offS_nil B).2.1, fun _ g o e => by cases e; omega⟩⟩
  have h := made_ns n (by omega) ((w.alloc (.cells #[.int .i64 (n : Int)] 83)).alloc (.cells #[.int .u64 0, .slice none 0 0, .slice none 0 0, .slice (some ⟨w.heap.size + 1 + 1, 0, none⟩) n n, .bool false] 31))
  simpa only [World.size_alloc] using h

/-- How an object's first state is asked for. -/
def FiI (k p m : Int) (T : TypeId) (V : Value) (f : Nat) (V' : Value) : Prop :=
  (∀ w, Sem.run Try.prog (method 237 T V "whitewash/auto.first") w = .ok (f, V') w) ∧ (∀ w, Sem.run Try.prog (callFunc f #[V']) w = .ok (.enter f #[V']) w) ∧ ∀ w, Calls Try.prog f #[V'] w (NE (newS k p m).1 w)
theorem new_is {k p m : Int} (hf : fits k p m = true) (h5 : k ≠ 5) : newS k p m = (zeroS, 0) := by unfold newS; rw [if_pos hf, if_neg h5]; rfl
theorem fi_obj {k p m : Int} (hf : fits k p m = true) : ∃ f V', FiI k p m (oT k) (oV k m) f V' := by
  rcases kinds hf with rfl | rfl | rfl | rfl | rfl
  · exact ⟨44, kE, fun w => by kernel_rfl, fun w => by kernel_rfl, fun w => by rw [new_is hf (by decide)]; exact rfirst_any w⟩
  · exact ⟨57, kd (kT 2) m, fun w => by kernel_rfl, fun w => by kernel_rfl, fun w => by rw [new_is hf (by decide)]; exact kfirst_any _ m w⟩
  · exact ⟨57, kd (kT 3) m, fun w => by kernel_rfl, fun w => by kernel_rfl, fun w => by rw [new_is hf (by decide)]; exact kfirst_any _ m w⟩
  · exact ⟨57, kd (kT 4) m, fun w => by kernel_rfl, fun w => by kernel_rfl, fun w => by rw [new_is hf (by decide)]; exact kfirst_any _ m w⟩
  · refine ⟨96, .agg #[.int .i64 m], fun w => by kernel_rfl, fun w => by kernel_rfl, fun w => ?_⟩
    have hb := fits_of hf
    obtain ⟨n, rfl⟩ : ∃ n : Nat, m = n := ⟨m.toNat, by omega⟩
    have hN : newS 5 p n = (⟨0, [], [], List.replicate n 0, false⟩, 0) := by unfold newS; rw [if_pos hf]; simp
    rw [hN]
    exact bfirst_any n (by omega) w

set_option maxHeartbeats 1000000 in
set_option maxRecDepth 100000 in
theorem new_any (k p m : Int) (w : World) : Calls Try.prog 6 #[cf k p m] w (SE (newS k p m).1 w (fun v => .tuple #[v, .int .i64 (newS k p m).2])) := by
  have hF := Lib.hid (fun w => fits_any k p m w)
  have hB := bx_new (bx k p m) 0 nilSl nilSl nilSl false w
  have X0 := Lib.hid (box_new (bx k p m) 0 nilSl nilSl nilSl false w).2
  by_cases hf : fits k p m = true
  · obtain ⟨f, V', m1, m2, m3⟩ := fi_obj hf
    have hf' : Reg.fits k p m = true := hf
    rw [hf'] at hF
    have hN : (newS k p m).2 = 0 := by unfold newS; rw [if_pos hf]
    rw [hN]
    have HO := Lib.hid (fun W => object_any k p m W)
    have M3 := Lib.hid m3
    generalize (newS k p m).1 = s at *
    generalize oT k = OT at *
    generalize oV k m = OV at *
    have HB := Lib.hid hB
    clear hB hf hf' hN m3
    dsimp only [cf, bx, sb] at *
    go_enter Try.func6, Try.ntmps6
    go_wp2_with (first
      | (go_at_call 15; (with_reducible refine (hF.out _).mono ?_); rintro e w' ⟨rfl, rfl⟩)
      | (go_at_call 16; (with_reducible refine (HO.out _).mono ?_); rintro e w' ⟨rfl, rfl⟩)
      | (go_at_fn f; (with_reducible refine (M3.out _).mono ?_); rintro e w1 ⟨hE, a, v, t, rfl, hS, hO⟩; obtain ⟨⟨r9, k9, v9, t9, cl9, g0, g1, g2, g3, g4⟩, z⟩ := (HB.out.ext (by repeat (first | exact Ext.refl _ | refine Ext.alloc ?_ _ | refine Ext.drew ?_))).ext hE; have z0 := z 0; have z1 := z 1; have z2 := z 2; have z3 := z 3; have z4 := z 4; have X1 : RowKit.Hid (Ext w w1) := Lib.hid (Ext.trans (by repeat (first | exact X0.out | refine Ext.alloc ?_ _ | refine Ext.drew ?_)) hE); have HS := Lib.hid hS; have HO2 := Lib.hid (hO (w.heap.size + 1) (by simp)); clear hE hS hO z HB; obtain ⟨ka, kn, kc⟩ := a; obtain ⟨va, vn, vc⟩ := v; obtain ⟨ta, tn, tc⟩ := t; dsimp only [sv] at *))
    refine bodyPost_ret (v := .tuple #[sv s.reg ⟨ka, kn, kc⟩ ⟨va, vn, vc⟩ ⟨ta, tn, tc⟩ s.closed, .int .i64 0]) (by simp [results, Try.results6, go_sem, g0, g1, g2, g3, g4]) rfl ?_
    refine ⟨?_, ⟨ka, kn, kc⟩, ⟨va, vn, vc⟩, ⟨ta, tn, tc⟩, rfl, ?_⟩
    · repeat (first | (with_reducible exact X1.out) | (with_reducible refine Ext.setCell ?_ (Nat.le_succ _) _))
    · repeat (first | (with_reducible exact HS.out) | (with_reducible refine SS.set ?_ HO2.out _ _))
  · have hf' : Reg.fits k p m = false := Bool.eq_false_iff.2 hf
    rw [hf'] at hF
    have hN : RowKit.Hid (newS k p m = (zeroS, 5)) := Lib.hid (by unfold newS; rw [if_neg hf])
    clear hf hf' hB
    dsimp only [cf, bx, sb] at *
    go_enter Try.func6, Try.ntmps6
    go_wp2_with (first
      | (go_at_call 15; (with_reducible refine (hF.out _).mono ?_); rintro e w' ⟨rfl, rfl⟩))
    refine bodyPost_ret (v := .tuple #[sv 0 nilSl nilSl nilSl false, .int .i64 5]) (by simp [results, Try.results6, go_sem]) rfl ?_
    rw [hN.out]
    exact ⟨by repeat (first | exact X0.out | refine Ext.alloc ?_ _ | refine Ext.setCell ?_ (by simp) _), nilSl, nilSl, nilSl, rfl, ss_zero _⟩

set_option maxHeartbeats 1000000 in
theorem reads_is (c : Int) (w : World) : Calls Try.prog 14 #[.int .i64 c] w fun e w' => e = .returned (.bool (readsS c)) ∧ w = w' := by
  have hs : ∀ x : Int, ¬ c = x → (c == x) = false := fun x h => by simpa using h
  unfold readsS
  by_cases h1 : c = 1
  · subst h1; go_enter Try.func14, Try.ntmps14; go_wp2; go_ret; exact ⟨rfl, rfl⟩
  by_cases h2 : c = 5
  · subst h2; go_enter Try.func14, Try.ntmps14; go_wp2; go_ret; exact ⟨rfl, rfl⟩
  by_cases h3 : c = 8
  · subst h3; go_enter Try.func14, Try.ntmps14; go_wp2; go_ret; exact ⟨rfl, rfl⟩
  by_cases h4 : c = 9
  · subst h4; go_enter Try.func14, Try.ntmps14; go_wp2; go_ret; exact ⟨rfl, rfl⟩
  by_cases h5 : c = 10
  · subst h5; go_enter Try.func14, Try.ntmps14; go_wp2; go_ret; exact ⟨rfl, rfl⟩
  by_cases h6 : c = 14
  · subst h6; go_enter Try.func14, Try.ntmps14; go_wp2; go_ret; exact ⟨rfl, rfl⟩
  by_cases h7 : c = 15
  · subst h7; go_enter Try.func14, Try.ntmps14; go_wp2; go_ret; exact ⟨rfl, rfl⟩
  by_cases h8 : c = 16
  · subst h8; go_enter Try.func14, Try.ntmps14; go_wp2; go_ret; exact ⟨rfl, rfl⟩
  have hr : decide (c = 1 ∨ c = 5 ∨ c = 8 ∨ c = 9 ∨ c = 10 ∨ c = 14 ∨ c = 15 ∨ c = 16) = false := decide_eq_false (by omega)
  rw [hr]
  have b1 := hs 1 h1
  have b2 := hs 5 h2
  have b3 := hs 8 h3
  have b4 := hs 9 h4
  have b5 := hs 10 h5
  have b6 := hs 14 h6
  have b7 := hs 15 h7
  have b8 := hs 16 h8
  clear h1 h2 h3 h4 h5 h6 h7 h8 hr hs
  go_enter Try.func14, Try.ntmps14
  go_wp2
  go_ret
  exact ⟨rfl, rfl⟩

def refusedS (k p m : Int) (s : St) : Int := if fits k p m then (if rightS k p m s then 0 else 1) else 5
set_option maxHeartbeats 1000000 in
set_option maxRecDepth 100000 in
theorem refused_any (k p m : Int) (a v t : Sl) (s : St) (w : World) (hS : SS w a v t s) : Calls Try.prog 17 #[cf k p m, sv s.reg a v t s.closed] w fun e w' => e = .returned (.int .i64 (refusedS k p m s)) ∧ Ext w w' := by
  obtain ⟨HT, HF, HX⟩ := both_new w k p m s.reg a v t s.closed
  have HFi := Lib.hid (fun W => fits_any k p m W)
  have X0 := Lib.hid HX
  obtain ⟨t0, t1, t2⟩ := HT
  obtain ⟨f0, f1, f2, f3, f4⟩ := HF
  have HC : RowKit.Hid (∀ W, Ext w W → Calls Try.prog 13 #[cf k p m, sv s.reg a v t s.closed] W fun e w' => e = .returned (.bool (rightS k p m s)) ∧ Ext W w') := Lib.hid fun W hE => right_any k p m a v t s W (hS.ext hE)
  unfold refusedS
  generalize rightS k p m s = R at *
  have hff : Reg.fits k p m = fits k p m := rfl
  rw [hff] at HFi
  generalize fits k p m = F at *
  obtain ⟨r, ks, vs, vt, cl⟩ := s
  obtain ⟨ka, kn, kc⟩ := a
  obtain ⟨va, vn, vc⟩ := v
  obtain ⟨ta, tn, tc⟩ := t
  clear hS HX hff
  dsimp only [sv, sb, cf, bx] at *
  cases F
  · go_enter Try.func17, Try.ntmps17
    go_wp2_with (first
      | (go_at_call 15; (with_reducible refine (HFi.out _).mono ?_); rintro e w' ⟨rfl, rfl⟩))
    go_ret
    exact ⟨rfl, by repeat (first | exact X0.out | refine Ext.alloc ?_ _)⟩
  · cases R
    all_goals
      go_enter Try.func17, Try.ntmps17
      go_wp2_with (first
        | (go_at_call 15; (with_reducible refine (HFi.out _).mono ?_); rintro e w' ⟨rfl, rfl⟩)
        | (go_at_call 13; (with_reducible refine (HC.out _ (by repeat (first | exact X0.out | refine Ext.alloc ?_ _))).mono ?_); rintro e w1 ⟨rfl, hE⟩; have X1 : RowKit.Hid (Ext w w1) := Lib.hid (Ext.trans (by repeat (first | exact X0.out | refine Ext.alloc ?_ _)) hE); clear hE))
      go_ret
      exact ⟨rfl, X1.out⟩

end Go.Proofs.Ytojdhnecafkibaa.Lan

/- LanAsk:
  The read-out's next call: onward, pairs, and ask of each kind of object. Conditions: what was told are answers, at most so many.
-/
namespace Go.Proofs.Ytojdhnecafkibaa.Lan
open Go.RowKit (Below intOf)
open Go.Proofs.Ytojdhnecafkibaa.Aut
open Go.Proofs.Ytojdhnecafkibaa.Reg (cf bx fits_any)

/-- What was told of keys, and of their values. -/
def evR : List Rs → List Rs
  | a :: _ :: r => a :: evR r
  | [a] => [a]
  | [] => []
def odR : List Rs → List Rs
  | _ :: b :: r => b :: odR r
  | [_] => []
  | [] => []
theorem evR_snoc : ∀ (l : List Rs) (y : Rs), evR (l ++ [y]) = if l.length % 2 = 0 then evR l ++ [y] else evR l
  | [], y => rfl
  | [a], y => rfl
  | a :: b :: r, y => by
    have h := evR_snoc r y
    have e : (r.length + 1 + 1) % 2 = r.length % 2 := by omega
    simp only [List.cons_append, evR, List.length_cons, h, e]
    split <;> simp
theorem odR_snoc : ∀ (l : List Rs) (y : Rs), odR (l ++ [y]) = if l.length % 2 = 0 then odR l else odR l ++ [y]
  | [], y => rfl
  | [a], y => rfl
  | a :: b :: r, y => by
    have h := odR_snoc r y
    have e : (r.length + 1 + 1) % 2 = r.length % 2 := by omega
    simp only [List.cons_append, odR, List.length_cons, h, e]
    split <;> simp
theorem evR_len : ∀ l : List Rs, (evR l).length = (l.length + 1) / 2
  | [] => rfl
  | [a] => by simp [evR]
  | a :: b :: r => by simp only [evR, List.length_cons, evR_len r]; omega
theorem odR_len : ∀ l : List Rs, (odR l).length = l.length / 2
  | [] => rfl
  | [a] => by simp [odR]
  | a :: b :: r => by simp only [odR, List.length_cons, odR_len r]; omega
theorem evR_get : ∀ (l : List Rs) (i : Nat), (evR l)[i]? = l[2 * i]?
  | [], i => by simp [evR]
  | [a], 0 => rfl
  | [a], i + 1 => by simp [evR]
  | a :: b :: r, 0 => rfl
  | a :: b :: r, i + 1 => by
    rw [evR, List.getElem?_cons_succ, evR_get r i, show 2 * (i + 1) = 2 * i + 1 + 1 by omega, List.getElem?_cons_succ, List.getElem?_cons_succ]
theorem odR_get : ∀ (l : List Rs) (i : Nat), (odR l)[i]? = l[2 * i + 1]?
  | [], i => by simp [odR]
  | [a], i => by simp [odR]
  | a :: b :: r, 0 => rfl
  | a :: b :: r, i + 1 => by
    rw [odR, List.getElem?_cons_succ, odR_get r i, show 2 * (i + 1) + 1 = 2 * i + 1 + 1 + 1 by omega, List.getElem?_cons_succ, List.getElem?_cons_succ]
theorem evR_mem {l : List Rs} {r : Rs} (h : r ∈ evR l) : r ∈ l := by
  obtain ⟨i, hi⟩ := List.mem_iff_getElem?.1 h
  rw [evR_get] at hi; exact List.mem_of_getElem? hi
theorem odR_mem {l : List Rs} {r : Rs} (h : r ∈ odR l) : r ∈ l := by
  obtain ⟨i, hi⟩ := List.mem_iff_getElem?.1 h
  rw [odR_get] at hi; exact List.mem_of_getElem? hi

def badR (l : List Rs) : Bool := l.any fun r => decide (r.1 ≠ 0)
/-- The call for the key behind those that were told. -/
def onwardS (k : Int) (l : List Rs) : Cl × Bool :=
  if badR l then (zeroC, false) else if l = [] then (⟨8, if k = 4 then 18442240474082181120 else 0, 0⟩, true) else (⟨8, (l.getD (l.length - 1) (0, 0)).2, 1⟩, true)
def askT (k : Int) (l : List Rs) : Cl × Bool := if (onwardS k (evR l)).2 = true ∧ (odR l).length < (evR l).length then (⟨10, (onwardS k (evR l)).1.key, 0⟩, true) else onwardS k (evR l)
theorem over_set {k : Int} (hv : valued k = false) (l : List Rs) : overK k l ↔ badR l = true := by
  unfold overK everyK badR
  rw [hv, List.any_eq_true]
  constructor
  · rintro ⟨i, r, _, h2, h3⟩; exact ⟨r, List.mem_of_getElem? h2, decide_eq_true h3⟩
  · rintro ⟨r, hr, h3⟩
    obtain ⟨i, hi⟩ := List.mem_iff_getElem?.1 hr
    exact ⟨i, r, Nat.mod_one _, hi, of_decide_eq_true h3⟩
theorem over_table {k : Int} (hv : valued k = true) (l : List Rs) : overK k l ↔ badR (evR l) = true := by
  unfold overK everyK badR
  rw [hv, List.any_eq_true]
  constructor
  · rintro ⟨i, r, h1, h2, h3⟩
    obtain ⟨j, rfl⟩ : ∃ j, i = 2 * j := ⟨i / 2, by simp only [if_true] at h1; omega⟩
    exact ⟨r, List.mem_of_getElem? (by rw [evR_get]; exact h2), decide_eq_true h3⟩
  · rintro ⟨r, hr, h3⟩
    obtain ⟨i, hi⟩ := List.mem_iff_getElem?.1 hr
    rw [evR_get] at hi
    exact ⟨2 * i, r, by simp, hi, of_decide_eq_true h3⟩
theorem ask_set {k : Int} (hv : valued k = false) (l : List Rs) : onwardS k l = probedS k l := by
  unfold onwardS probedS
  by_cases h : badR l = true
  · rw [if_pos h, if_pos ((over_set hv l).2 h)]
  · rw [if_neg h, if_neg (fun c => h ((over_set hv l).1 c))]
    have e : everyK k = 1 := by unfold everyK; rw [hv]; rfl
    rw [e, if_neg (show ¬ l.length % 1 = 1 by omega)]
theorem ask_table {k : Int} (hv : valued k = true) (l : List Rs) : askT k l = probedS k l := by
  have e : everyK k = 2 := by unfold everyK; rw [hv]; rfl
  unfold askT probedS
  rw [e]
  have ln := evR_len l
  have lo := odR_len l
  by_cases h : badR (evR l) = true
  · have ho : onwardS k (evR l) = (zeroC, false) := by unfold onwardS; rw [if_pos h]
    rw [ho, if_neg (by simp), if_pos ((over_table hv l).2 h)]
  · rw [if_neg (show ¬ overK k l from fun c => h ((over_table hv l).1 c))]
    by_cases hl : l = []
    · subst hl; simp [evR, odR, onwardS, badR]
    · rw [if_neg hl]
      have hpos : 0 < l.length := List.length_pos_iff.2 hl
      have hne : evR l ≠ [] := fun c => by rw [c] at ln; simp at ln; omega
      have ho : onwardS k (evR l) = (⟨8, ((evR l).getD ((evR l).length - 1) (0, 0)).2, 1⟩, true) := by unfold onwardS; rw [if_neg h, if_neg hne]
      rw [ho, List.getD_eq_getElem?_getD, evR_get]
      by_cases hodd : l.length % 2 = 1
      · rw [if_pos hodd, if_pos ⟨rfl, by omega⟩, show 2 * ((evR l).length - 1) = l.length - 1 by omega, List.getD_eq_getElem?_getD]
      · rw [if_neg hodd, if_neg (fun c => by have := c.2; omega), show 2 * ((evR l).length - 1) = l.length - 2 by omega, List.getD_eq_getElem?_getD]

abbrev opv (c : Cl) : Value := ov c.code c.key c.val
/-- The read-out's next call, as it is told. -/
def AE (c : Cl × Bool) (w : World) (e : Ending) (w' : World) : Prop := e = .returned (.tuple #[opv c.1, .bool c.2]) ∧ Ext w w'

theorem res_new (o : Obj) (w : World) : ((w.alloc o).alloc (ob 0 0 0)).cell? ⟨w.heap.size + 1, 0, none⟩ = some (.int .i64 0) ∧ ((w.alloc o).alloc (ob 0 0 0)).cell? ⟨w.heap.size + 1, 1, none⟩ = some (.int .u64 0) ∧ ((w.alloc o).alloc (ob 0 0 0)).cell? ⟨w.heap.size + 1, 2, none⟩ = some (.int .u64 0) ∧ ∀ i, ((w.alloc o).alloc (ob 0 0 0)).frozen? ⟨w.heap.size + 1, i, none⟩ = false := by
  have hs : (w.alloc o).heap.size = w.heap.size + 1 := by simp
  refine ⟨?_, ?_, ?_, fun i => ?_⟩ <;> rw [← hs]
  · unfold World.cell?; rw [World.alloc_heap_new]; rfl
  · unfold World.cell?; rw [World.alloc_heap_new]; rfl
  · unfold World.cell?; rw [World.alloc_heap_new]; rfl
  · unfold World.frozen?; rw [World.alloc_heap_new]; rfl

set_option maxHeartbeats 1000000 in
set_option maxRecDepth 100000 in
theorem reg_ask (sl : Option Addr) (n c : Nat) (l : List Rs) (w : World) (hl : RS w sl n c l) : Calls Try.prog 42 #[kE, .slice sl n c] w (AE (if 0 < l.length then (zeroC, false) else (⟨1, 0, 0⟩, true)) w) := by
  rw [hl.len]
  by_cases h : 0 < n
  · have h2 : (0 : Int) < n := by omega
    rw [if_pos h]
    clear hl
    go_enter Try.func42, Try.ntmps42
    go_wp2_with (fail)
    refine bodyPost_ret (v := .tuple #[ov 0 0 0, .bool false]) (by simp [results, Try.results42, go_sem]) rfl ?_
    exact ⟨rfl, by repeat (first | exact Ext.refl _ | refine Ext.alloc ?_ _ | refine Ext.setCell ?_ (by simp) _)⟩
  · have h2 : ¬ (0 : Int) < n := by omega
    rw [if_neg h]
    clear hl
    go_enter Try.func42, Try.ntmps42
    go_wp2_with (fail)
    refine bodyPost_ret (v := .tuple #[ov 1 0 0, .bool true]) (by simp [results, Try.results42, go_sem]) rfl ?_
    exact ⟨rfl, by repeat (first | exact Ext.refl _ | refine Ext.alloc ?_ _ | refine Ext.setCell ?_ (by simp) _)⟩

set_option maxHeartbeats 1000000 in
set_option maxRecDepth 100000 in
theorem ballot_ask (m : Int) (hm : 1 ≤ m ∧ m ≤ 256) (sl : Option Addr) (n c : Nat) (l : List Rs) (w : World) (hl : RS w sl n c l) : Calls Try.prog 94 #[.agg #[.int .i64 m], .slice sl n c] w
    (AE (if l.length = 0 then (⟨16, 0, 0⟩, true) else if l.length ≤ 8 then (⟨14, (l.length : Int), 0⟩, true) else if (l.length : Int) ≤ 8 + m then (⟨15, (l.length : Int) - 9, 0⟩, true) else (zeroC, false)) w) := by
  rw [hl.len]
  have hn := hl.le
  have b0 : ((n : Int) == 0) = decide (n = 0) := by by_cases h : n = 0 <;> simp [h]
  have hu := len_u64 hn
  have hw9 : RowKit.wrap64 (9 + m) = 9 + m := by simp only [RowKit.wrap64]; omega
  have hw9' : IntKind.i64.wrap (9 + m) = 9 + m := by simp only [IntKind.wrap_i64]; omega
  by_cases h0 : n = 0
  · rw [if_pos h0]
    rw [decide_eq_true h0] at b0
    clear h0
    clear hl
    go_enter Try.func94, Try.ntmps94
    go_wp2_with (fail)
    refine bodyPost_ret (v := .tuple #[ov 16 0 0, .bool true]) (by simp [results, Try.results94, go_sem]) rfl ?_
    exact ⟨rfl, by repeat (first | exact Ext.refl _ | refine Ext.alloc ?_ _ | refine Ext.setCell ?_ (by simp) _)⟩
  rw [if_neg h0]
  rw [decide_eq_false h0] at b0
  by_cases h8 : n ≤ 8
  · rw [if_pos h8]
    have b8 : (n : Int) < 9 := by omega
    clear h0 h8
    clear hl
    go_enter Try.func94, Try.ntmps94
    go_wp2_with (fail)
    refine bodyPost_ret (v := .tuple #[ov 14 n 0, .bool true]) (by simp [results, Try.results94, go_sem]) rfl ?_
    exact ⟨rfl, by repeat (first | exact Ext.refl _ | refine Ext.alloc ?_ _ | refine Ext.setCell ?_ (by simp) _)⟩
  rw [if_neg h8]
  have b8 : ¬ (n : Int) < 9 := by omega
  by_cases hM : (n : Int) ≤ 8 + m
  · rw [if_pos hM]
    have bM : (n : Int) < 9 + m := by omega
    have hu2 : IntKind.u64.wrap ((n : Int) - 9) = (n : Int) - 9 := by simp only [IntKind.wrap_u64]; omega
    have hu3 : RowKit.wrap64 ((n : Int) - 9) = (n : Int) - 9 := by simp only [RowKit.wrap64]; omega
    have hu4 : IntKind.i64.wrap ((n : Int) - 9) = (n : Int) - 9 := by simp only [IntKind.wrap_i64]; omega
    clear h0 h8 hM
    clear hl
    go_enter Try.func94, Try.ntmps94
    go_wp2_with (fail)
    refine bodyPost_ret (v := .tuple #[ov 15 ((n : Int) - 9) 0, .bool true]) (by simp [results, Try.results94, go_sem]) rfl ?_
    exact ⟨rfl, by repeat (first | exact Ext.refl _ | refine Ext.alloc ?_ _ | refine Ext.setCell ?_ (by simp) _)⟩
  · rw [if_neg hM]
    have bM : ¬ (n : Int) < 9 + m := by omega
    clear h0 h8 hM
    clear hl
    go_enter Try.func94, Try.ntmps94
    go_wp2_with (fail)
    refine bodyPost_ret (v := .tuple #[ov 0 0 0, .bool false]) (by simp [results, Try.results94, go_sem]) rfl ?_
    exact ⟨rfl, by repeat (first | exact Ext.refl _ | refine Ext.alloc ?_ _ | refine Ext.setCell ?_ (by simp) _)⟩

end Go.Proofs.Ytojdhnecafkibaa.Lan

/- LanOn:
  onward, pairs, ask of a set and of a table, and Probe. Conditions: what was told are answers, at most so many.
-/
namespace Go.Proofs.Ytojdhnecafkibaa.Lan
open Go.RowKit (Below intOf)
open Go.Proofs.Ytojdhnecafkibaa.Aut
open Go.Proofs.Ytojdhnecafkibaa.Reg (cf bx fits_any)

theorem fro_alloc {w : World} {b o : Nat} {v : Value} {x : Obj} (h : w.cell? ⟨b, o, none⟩ = some v) (hf : w.frozen? ⟨b, o, none⟩ = false) : (w.alloc x).frozen? ⟨b, o, none⟩ = false := ((Ext.new w x).frozen h).trans hf
theorem bad_take {l : List Rs} {i : Nat} {r : Rs} (h : l[i]? = some r) (hr : r.1 ≠ 0) : badR l = true := by
  unfold badR; rw [List.any_eq_true]; exact ⟨r, List.mem_of_getElem? h, decide_eq_true hr⟩
theorem bad_no {l : List Rs} (h : ∀ (j : Nat) r, j < l.length → l[j]? = some r → r.1 = 0) : ¬ badR l = true := fun c => by
  unfold badR at c; rw [List.any_eq_true] at c
  obtain ⟨r, hr, h3⟩ := c
  obtain ⟨i, hi⟩ := List.mem_iff_getElem?.1 hr
  exact of_decide_eq_true h3 (h i r (List.getElem?_eq_some_iff.1 hi).1 hi)

set_option maxHeartbeats 2000000 in
set_option maxRecDepth 100000 in
theorem onward_any {k : Int} {T : TypeId} {fk fr fl : Nat} (I : KI k T fk fr fl) (m : Int) (sl : Option Addr) (n c : Nat) (l : List Rs) (w : World) (hl : RS w sl n c l) :
    Calls Try.prog 63 #[kd T m, .slice sl n c] w (AE (onwardS k l) w) := by
  obtain ⟨k0, k1⟩ := kb_new T m w
  have hK0 : ((w.alloc (kb T m)).alloc (ob 0 0 0)).cell? ⟨w.heap.size, 0, none⟩ = some (.iface T kE) := box_alloc k0
  obtain ⟨r0, r1, r2, rf⟩ := res_new (kb T m) w
  have X0 := Lib.hid ((Ext.new w (kb T m)).alloc (ob 0 0 0))
  have h1 := I.lm
  have h2 := I.el
  have HL := Lib.hid (fun w => I.cl w)
  have hn := hl.le
  have HR := Lib.hid hl
  have Hres : ∀ i, ((w.alloc (kb T m)).alloc (ob 0 0 0)).frozen? ⟨w.heap.size + 1, i, none⟩ = false := rf
  clear I hl k0 k1 rf
  dsimp only [kd, kb, ob] at *
  go_enter Try.func63, Try.ntmps63
  go_wp2_with (fail)
  go_loopg [10] n (fun kx s10 wr => ∃ i : Nat, s10 = .int .i64 i ∧ i ≤ n ∧ n - i ≤ kx ∧ RowKit.Hid (Ext ((w.alloc (.cells #[.iface T kE, .int .i64 m] 77)).alloc (.cells #[.int .i64 0, .int .u64 0, .int .u64 0] 39)) wr) ∧ RowKit.Hid (∀ (j : Nat) r, j < i → l[j]? = some r → r.1 = 0))
  case atStart => exact ⟨0, rfl, Nat.zero_le _, by omega, Lib.hid (Ext.refl _), Lib.hid fun j y hj => absurd hj (Nat.not_lt_zero _)⟩
  case round =>
    obtain ⟨i, rfl, hi, hg, S1, J⟩ := hrel
    have c0 := S1.out.cell hK0
    have g0 := S1.out.cell r0
    have g1 := S1.out.cell r1
    have g2 := S1.out.cell r2
    have z0 := (S1.out.frozen r0).trans (Hres 0)
    have z1 := (S1.out.frozen r1).trans (Hres 1)
    have z2 := (S1.out.frozen r2).trans (Hres 2)
    have X1 : RowKit.Hid (Ext w wr) := Lib.hid (X0.out.trans S1.out)
    clear hK0 r0 r1 r2 Hres X0
    by_cases hlt : i < n
    · have hlt2 : (i : Int) < n := by omega
      obtain ⟨⟨e, v⟩, hy, hyu, b, o, rfl, hyc, hyd⟩ := HR.out.get hlt
      have cm := X1.out.cell hyc
      have cd := X1.out.cell hyd
      clear hyc hyd hyu
      have HY := Lib.hid hy
      clear hy HL
      dsimp only at cm cd
      by_cases he : e = 0
      · have he2 : (e != 0) = false := by simp [he]
        have HE := Lib.hid he
        clear he
        go_wp2_with (fail)
        go_roundg (n - (i + 1))
        case measure => omega
        case rel =>
          refine ⟨i + 1, by first | rfl | (congr 1; omega), by omega, by omega, Lib.hid (by repeat (first | exact S1.out | refine Ext.alloc ?_ _ | refine Ext.setCell ?_ (by have := S1.out.size; simp at this; simp; omega) _)), Lib.hid fun j r hj hr => ?_⟩
          by_cases e2 : j < i
          · exact J.out j r e2 hr
          · obtain rfl : j = i := by omega
            rw [HY.out] at hr; cases hr; exact HE.out
      · have he2 : (e != 0) = true := by simpa using he
        have hq : RowKit.Hid (onwardS k l = (zeroC, false)) := Lib.hid (by unfold onwardS; rw [if_pos (bad_take HY.out he)])
        clear he
        have y0 := box_alloc (x := .cells #[.int .i64 e, .int .u64 v] 41) g0
        have y1 := box_alloc (x := .cells #[.int .i64 e, .int .u64 v] 41) g1
        have y2 := box_alloc (x := .cells #[.int .i64 e, .int .u64 v] 41) g2
        have q0 := fro_alloc (x := .cells #[.int .i64 e, .int .u64 v] 41) g0 z0
        have q1 := fro_alloc (x := .cells #[.int .i64 e, .int .u64 v] 41) g1 z1
        have q2 := fro_alloc (x := .cells #[.int .i64 e, .int .u64 v] 41) g2 z2
        go_wp2_with (fail)
        refine bodyPost_ret (v := .tuple #[ov 0 0 0, .bool false]) (by simp [results, Try.results63, go_sem, y0, y1, y2]) rfl ?_
        rw [hq.out]
        exact ⟨rfl, by repeat (first | exact X1.out | refine Ext.alloc ?_ _ | refine Ext.setCell ?_ (by simp) _)⟩
    · obtain rfl : i = n := by omega
      have hlt2 : ¬ (i : Int) < i := by omega
      have hb := bad_no (l := l) (by rw [HR.out.len]; exact J.out)
      by_cases h0 : i = 0
      · subst h0
        have hq : RowKit.Hid (onwardS k l = (⟨8, if k = 4 then 18442240474082181120 else 0, 0⟩, true)) := Lib.hid (by unfold onwardS; rw [if_neg hb, if_pos (List.eq_nil_of_length_eq_zero HR.out.len)])
        generalize (if k = 4 then (18442240474082181120 : Int) else 0) = L at *
        clear hb J HR
        have y0 := box_alloc (x := .cells #[] T) g0
        have y1 := box_alloc (x := .cells #[] T) g1
        have y2 := box_alloc (x := .cells #[] T) g2
        have q0 := fro_alloc (x := .cells #[] T) g0 z0
        have q1 := fro_alloc (x := .cells #[] T) g1 z1
        have q2 := fro_alloc (x := .cells #[] T) g2 z2
        go_wp2_with (first | (go_at_fn fl; (with_reducible refine (HL.out _).mono ?_); rintro e w' ⟨rfl, rfl⟩))
        refine bodyPost_ret (v := .tuple #[ov 8 L 0, .bool true]) (by simp [results, Try.results63, go_sem, y0, y1, y2]) rfl ?_
        rw [hq.out]
        exact ⟨rfl, by repeat (first | exact X1.out | refine Ext.alloc ?_ _ | refine Ext.setCell ?_ (by simp) _)⟩
      · obtain ⟨d, rfl⟩ : ∃ d, i = d + 1 := ⟨i - 1, by omega⟩
        obtain ⟨⟨e, v⟩, hy, hyu, b, o, rfl, hyc, hyd⟩ := HR.out.get (k := d) (by omega)
        have cd := X1.out.cell hyd
        have hll := HR.out.len
        have hq : RowKit.Hid (onwardS k l = (⟨8, v, 1⟩, true)) := Lib.hid (by
          unfold onwardS; rw [if_neg hb, if_neg (fun c => by rw [c] at hll; simp at hll), hll, Nat.add_sub_cancel, List.getD_eq_getElem?_getD, hy]; rfl)
        have hj2 : ((d + 1 : Nat) : Int) - 1 = d := by omega
        have hj3 : RowKit.wrap64 (d : Int) = d := by simp only [RowKit.wrap64]; omega
        have hj4 : IntKind.i64.wrap (d : Int) = d := by simp only [IntKind.wrap_i64]; omega
        have hj5 : ((d : Int) + 1) - 1 = d := by omega
        have hj6 : ((d : Int) + 1 == 0) = false := by simp; omega
        have hj7 : ((d + 1 : Nat) : Int) = (d : Int) + 1 := by omega
        clear hb J HR hyc hyd hyu hy HL hll
        dsimp only at cd
        go_wp2_with (fail)
        refine bodyPost_ret (v := .tuple #[ov 8 v 1, .bool true]) (by simp [results, Try.results63, go_sem, g0, g1, g2]) rfl ?_
        rw [hq.out]
        exact ⟨rfl, by repeat (first | exact X1.out | refine Ext.alloc ?_ _ | refine Ext.setCell ?_ (by simp) _)⟩

end Go.Proofs.Ytojdhnecafkibaa.Lan

