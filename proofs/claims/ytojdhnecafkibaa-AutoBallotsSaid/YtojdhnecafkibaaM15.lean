/-
  Parts of a proof, one behind the other: LawBal, LawBallots, LawRead. Each says its own conditions.
-/
import Derived.Test.YtojdhnecafkibaaM14
import Derived.OpenShut
import Derived.Carry
import Derived.Lib.SmallJoins

/- LawBal:
  What lies there in a round of AutoBallots, and what a round does to it. No condition.
-/
namespace Go.Proofs.Ytojdhnecafkibaa.Law
open Go.RowKit (Below intOf)
open Go.Proofs.Ytojdhnecafkibaa.Aut
open Go.Proofs.Ytojdhnecafkibaa.Lan (DoE opv new_any do_all)
open Go.Proofs.Ytojdhnecafkibaa.Reg (cf bx fits_any)

/-- The boxes of a round. -/
structure Bas (w wr : World) (C S N V : Nat) (m : Nat) (r : Int) (a v t : Sl) (cl : Bool) (cnt : List Int) (vt : List Bool) : Prop where
  ex : Ext w wr
  bc : Cb wr C [.int .i64 5, .int .i64 1, .int .i64 (m : Int)]
  bs : Cb wr S (sc r a v t cl)
  bn : Cb wr N (cnt.map (Value.int .u64))
  bv : Cb wr V (vt.map Value.bool)
theorem Bas.ext {w wr wr' : World} {C S N V m : Nat} {r : Int} {a v t : Sl} {cl : Bool} {cnt : List Int} {vt : List Bool} (h : Bas w wr C S N V m r a v t cl cnt vt) (e : Ext wr wr') : Bas w wr' C S N V m r a v t cl cnt vt :=
  ⟨h.ex.trans e, h.bc.ext e, h.bs.ext e, h.bn.ext e, h.bv.ext e⟩
theorem Bas.far {w wr : World} {C S N V m : Nat} {r : Int} {a v t : Sl} {cl : Bool} {cnt : List Int} {vt : List Bool} (h : Bas w wr C S N V m r a v t cl cnt vt) {B : Nat} (hB : w.heap.size ≤ B) (h1 : C ≠ B) (h2 : S ≠ B) (h3 : N ≠ B) (h4 : V ≠ B) (i : Nat) (x : Value) : Bas w (wr.setCell ⟨B, i, none⟩ x) C S N V m r a v t cl cnt vt :=
  ⟨h.ex.setCell hB x, h.bc.far h1 i x, h.bs.far h2 i x, h.bn.far h3 i x, h.bv.far h4 i x⟩
/-- What lies there in a round. -/
structure Bal (w wr : World) (C S N V : Nat) (m : Nat) (s : St) (a v t : Sl) (cnt : List Int) (vt : List Bool) : Prop where
  b : Bas w wr C S N V m s.reg a v t s.closed cnt vt
  ss : SS wr a v t s
  ri : rightS 5 1 m s = true
  ta : Tal s m cnt vt
theorem Bal.ext {w wr wr' : World} {C S N V m : Nat} {s : St} {a v t : Sl} {cnt : List Int} {vt : List Bool} (h : Bal w wr C S N V m s a v t cnt vt) (e : Ext wr wr') : Bal w wr' C S N V m s a v t cnt vt :=
  ⟨h.b.ext e, h.ss.ext e, h.ri, h.ta⟩
theorem Bas.count {w wr : World} {C S N V m : Nat} {r : Int} {a v t : Sl} {cl : Bool} {s : St} {cnt : List Int} {vt : List Bool} (h : Bas w wr C S N V m r a v t cl cnt vt) (ta : Tal s m cnt vt) {x : Nat} (h1 : 1 ≤ x) (h8 : x ≤ 8) : wr.cell? ⟨N, x, none⟩ = some (.int .u64 (tallyL s.votes (x : Int) : Int)) ∧ wr.frozen? ⟨N, x, none⟩ = false :=
  ⟨h.bn.c x _ (by rw [List.getElem?_map, ta.c x h1 h8]; rfl), h.bn.f x⟩
theorem Bas.voted {w wr : World} {C S N V m : Nat} {r : Int} {a v t : Sl} {cl : Bool} {s : St} {cnt : List Int} {vt : List Bool} (h : Bas w wr C S N V m r a v t cl cnt vt) (ta : Tal s m cnt vt) {i : Nat} (hi : i < m) : wr.cell? ⟨V, i, none⟩ = some (.bool (decide (s.votes.getD i 0 ≠ 0))) ∧ wr.frozen? ⟨V, i, none⟩ = false :=
  ⟨h.bv.c i _ (by rw [List.getElem?_map, ta.v i hi]; rfl), h.bv.f i⟩
/-- A state's keys and values are nothing. -/
theorem ss_votes {w w' : World} {a v t : Sl} {s : St} {m : Int} (h : SS w a v t s) (hR : rightS 5 1 m s = true) (hn : NS w' t.a t.n t.c s.votes) : SS w' a v t s := by
  obtain ⟨h0, hk, hv, _⟩ := right_bal hR
  obtain ⟨g1, g2, g3, _⟩ := h
  rw [hk] at g2
  rw [hv] at g3
  exact ⟨g1, by rw [hk]; exact g2.nil_any, by rw [hv]; exact g3.nil_any, hn⟩
/-- A new state, stored where the old one stood. -/
theorem Bas.store {w wr : World} {C S N V m : Nat} {r : Int} {cl : Bool} {s' : St} {a v t a' v' t' : Sl} {cnt : List Int} {vt : List Bool} (h : Bas w wr C S N V m r a v t cl cnt vt) (hS : w.heap.size ≤ S) (hC : C ≠ S) (hN : N ≠ S) (hV : V ≠ S) (h2 : SS wr a' v' t' s') (hR : rightS 5 1 m s' = true) (hT : Tal s' m cnt vt) :
    Bal w (((((wr.setCell ⟨S, 0, none⟩ (.int .u64 s'.reg)).setCell ⟨S, 1, none⟩ (.slice a'.a a'.n a'.c)).setCell ⟨S, 2, none⟩ (.slice v'.a v'.n v'.c)).setCell ⟨S, 3, none⟩ (.slice t'.a t'.n t'.c)).setCell ⟨S, 4, none⟩ (.bool s'.closed)) C S N V m s' a' v' t' cnt vt := by
  have hb := h.bs.st (.int .u64 s'.reg) (.slice a'.a a'.n a'.c) (.slice v'.a v'.n v'.c) (.slice t'.a t'.n t'.c) (.bool s'.closed)
  have c0 := h.bs.five
  have n0 := h2.2.2.2.keep (B := S) (i := 0) (fun x => by rw [c0.1]; simp) (.int .u64 s'.reg)
  have k1 := h.bs.upd (i := 0) (by simp) (.int .u64 s'.reg)
  have n1 := n0.keep (B := S) (i := 1) (fun x => by rw [k1.c 1 _ rfl]; simp) (.slice a'.a a'.n a'.c)
  have k2 := k1.upd (i := 1) (by simp) (.slice a'.a a'.n a'.c)
  have n2 := n1.keep (B := S) (i := 2) (fun x => by rw [k2.c 2 _ rfl]; simp) (.slice v'.a v'.n v'.c)
  have k3 := k2.upd (i := 2) (by simp) (.slice v'.a v'.n v'.c)
  have n3 := n2.keep (B := S) (i := 3) (fun x => by rw [k3.c 3 _ rfl]; simp) (.slice t'.a t'.n t'.c)
  have k4 := k3.upd (i := 3) (by simp) (.slice t'.a t'.n t'.c)
  have n4 := n3.keep (B := S) (i := 4) (fun x => by rw [k4.c 4 _ rfl]; simp) (.bool s'.closed)
  exact ⟨⟨((((h.ex.setCell hS _).setCell hS _).setCell hS _).setCell hS _).setCell hS _, ((((h.bc.far hC _ _).far hC _ _).far hC _ _).far hC _ _).far hC _ _, hb, ((((h.bn.far hN _ _).far hN _ _).far hN _ _).far hN _ _).far hN _ _, ((((h.bv.far hV _ _).far hV _ _).far hV _ _).far hV _ _).far hV _ _⟩, ss_votes h2 hR n4, hR, hT⟩
/-- A vote is marked and counted. -/
theorem Bas.mark {w wr : World} {C S N V m : Nat} {r : Int} {cl : Bool} {a v t : Sl} {cnt : List Int} {vt : List Bool} (h : Bas w wr C S N V m r a v t cl cnt vt) (hN : w.heap.size ≤ N) (hV : w.heap.size ≤ V) (n1 : C ≠ N) (n2 : S ≠ N) (n3 : C ≠ V) (n4 : S ≠ V) (n5 : N ≠ V) (lc : cnt.length = 9) (lv : vt.length = 12) {i x : Nat} (hi : i < 12) (hx : x < 9) (y : Int)
    {s' : St} {a' v' t' : Sl} (h2 : SS wr a' v' t' s') (hR : rightS 5 1 m s' = true) :
    Bas w ((wr.setCell ⟨V, i, none⟩ (.bool true)).setCell ⟨N, x, none⟩ (.int .u64 y)) C S N V m r a v t cl (cnt.set x y) (vt.set i true) ∧ SS ((wr.setCell ⟨V, i, none⟩ (.bool true)).setCell ⟨N, x, none⟩ (.int .u64 y)) a' v' t' s' := by
  refine ⟨⟨(h.ex.setCell hV _).setCell hN _, (h.bc.far n3 _ _).far n1 _ _, (h.bs.far n4 _ _).far n2 _ _, ?_, ?_⟩, ss_votes h2 hR ?_⟩
  · have := (h.bn.far n5 i (.bool true)).upd (i := x) (by rw [List.length_map, lc]; exact hx) (.int .u64 y)
    rwa [← List.map_set] at this
  · have := (h.bv.upd (i := i) (by rw [List.length_map, lv]; exact hi) (.bool true)).far (Ne.symm n5) x (.int .u64 y)
    rwa [← List.map_set] at this
  · have lv : i < (vt.map Value.bool).length := by rw [List.length_map, lv]; exact hi
    have lc : x < (cnt.map (Value.int .u64)).length := by rw [List.length_map, lc]; exact hx
    have n0 := h2.2.2.2.keep (B := V) (i := i) (fun z => by rw [h.bv.c i _ (List.getElem?_eq_getElem lv)]; simp) (.bool true)
    exact n0.keep (B := N) (i := x) (fun z => by rw [(h.bn.far n5 i (.bool true)).c x _ (List.getElem?_eq_getElem lc)]; simp) (.int .u64 y)

end Go.Proofs.Ytojdhnecafkibaa.Law

/- LawBallots:
  AutoBallots: the walk. Conditions: integers' bounds; the raw calls can be read.
-/
namespace Go.Proofs.Ytojdhnecafkibaa.Law
open Go.RowKit (Below intOf)
open Go.Proofs.Ytojdhnecafkibaa.Aut
open Go.Proofs.Ytojdhnecafkibaa.Lan (DoE opv new_any do_all)
open Go.Proofs.Ytojdhnecafkibaa.Reg (cf bx fits_any)

theorem new_bal {m : Int} (h1 : 1 ≤ m) (h12 : m ≤ 12) : newS 5 1 m = (⟨0, [], [], List.replicate m.toNat 0, false⟩, 0) ∧ fits 5 1 m = true := by
  have hf : fits 5 1 m = true := by unfold fits Reg.fits; simp; omega
  refine ⟨?_, hf⟩
  unfold newS; rw [if_pos hf, if_pos rfl]

theorem w64_is {x X : Nat} (h : x + 1 = X) (h8 : X ≤ 4096) : IntKind.i64.wrap (1 + (x : Int)) = (X : Int) ∧ RowKit.wrap64 (1 + (x : Int)) = (X : Int) ∧ 1 + (x : Int) = (X : Int) ∧ IntKind.u64.wrap (X : Int) = (X : Int) := by
  refine ⟨?_, ?_, by omega, ?_⟩
  · simp only [IntKind.wrap_i64]; omega
  · simp only [RowKit.wrap64]; omega
  · simp only [IntKind.wrap_u64]; omega
theorem u64_is {v : Nat} (h : v ≤ 4096) : IntKind.u64.wrap (v : Int) = (v : Int) := by simp only [IntKind.wrap_u64]; omega
theorem wc_tal {k : Nat} (h : k ≤ 4096) : Wc ⟨14, (k : Int), 0⟩ := by unfold Wc I64 U64; simp only; omega
theorem wc_cast {v x : Nat} (hv : v ≤ 4096) (hx : x ≤ 4096) : Wc ⟨12, (v : Int), (x : Int)⟩ := by unfold Wc I64 U64; simp only; omega
theorem u64_up {a : Nat} (h : a ≤ 256) : IntKind.u64.wrap ((a : Int) + 1) = (a : Int) + 1 := by simp only [IntKind.wrap_u64]; omega
/-- What a round finds. -/
def BLoop (w wr : World) (C S N V m : Nat) (cv : Value) : Prop := ∃ s a v t cnt vt, cv = .bool s.closed ∧ Bal w wr C S N V m s a v t cnt vt
set_option maxHeartbeats 8000000 in
set_option maxRecDepth 100000 in
theorem ballots_walk (room : Int) (sl : Option Addr) (n c : Nat) (w : World) (hr : I64 room) (hT : TS w sl n) :
    Calls Try.prog 3 #[.int .i64 room, .slice sl n c] w fun e w' => e = .returned (.bool true) ∧ Ext w w' := by
  have HA := Lib.hid (fun W => awake_any do_all W)
  have HP := Lib.hid (fun W => pick_any room 12 W hr (by decide))
  obtain ⟨M, hM, eM⟩ := pick_nat room 12 (by decide)
  rw [show ((12 : Nat) : Int) = 12 from rfl] at eM
  rw [eM] at HP
  clear eM hr
  obtain ⟨m, em⟩ : ∃ m : Nat, M + 1 = m := ⟨_, rfl⟩
  have hm1 : 1 ≤ m := by omega
  have hm12 : m ≤ 12 := by omega
  have hwm : IntKind.i64.wrap (1 + (M : Int)) = (m : Int) := by simp only [IntKind.wrap_i64]; omega
  have hwm2 : RowKit.wrap64 (1 + (M : Int)) = (m : Int) := by simp only [RowKit.wrap64]; omega
  have hwm3 : 1 + (M : Int) = (m : Int) := by omega
  clear em
  obtain ⟨hnew, hfit⟩ := new_bal (m := (m : Int)) (by omega) (by omega)
  rw [show (m : Int).toNat = m by omega] at hnew
  have HN : RowKit.Hid (∀ W, _) := Lib.hid (fun W => new_any 5 1 (m : Int) W)
  rw [hnew] at HN
  have HTS := Lib.hid hT
  have hn := hT.1
  have HR0 : RowKit.Hid (rightS 5 1 (m : Int) ⟨0, [], [], List.replicate m 0, false⟩ = true) := Lib.hid (by have := new_right hfit; rw [hnew] at this; exact this)
  have HT0 := Lib.hid (tal_new m hm12)
  clear hT hnew hfit
  dsimp only [cf, sv] at *
  go_enter Try.func3, Try.ntmps3
  go_wp2_with (first
    | (go_at_call 4; (with_reducible refine (HA.out _).mono ?_); rintro e w1 ⟨rfl, e1⟩; have E1 := Lib.hid e1; clear e1)
    | (go_at_call 5; (with_reducible refine (HP.out _).mono ?_); rintro e w2 ⟨rfl, rfl⟩)
    | (go_at_call 6; (with_reducible refine (HN.out _).mono ?_); rintro e w3 ⟨e3, ⟨ka, kn, kc⟩, ⟨va, vn, vc⟩, ⟨ta, tn, tc⟩, rfl, s3⟩; have E3 := Lib.hid e3; have S3 := Lib.hid s3; clear e3 s3))
  have hz1 : w.heap.size ≤ w1.heap.size := E1.out.size
  have hz3 : w1.heap.size + 1 ≤ w3.heap.size := by have := E3.out.size; simpa only [World.size_alloc] using this
  have HB0 : RowKit.Hid (BLoop w (((w3.alloc (.cells #[.int .u64 0, .slice ka kn kc, .slice va vn vc, .slice ta tn tc, .bool false] 31)).alloc (.cells #[.int .u64 0, .int .u64 0, .int .u64 0, .int .u64 0, .int .u64 0, .int .u64 0, .int .u64 0, .int .u64 0, .int .u64 0] 35)).alloc (.cells #[.bool false, .bool false, .bool false, .bool false, .bool false, .bool false, .bool false, .bool false, .bool false, .bool false, .bool false, .bool false] 36)) w1.heap.size w3.heap.size (w3.heap.size + 1) (w3.heap.size + 1 + 1) m (.bool false)) := Lib.hid (by
    refine ⟨⟨0, [], [], List.replicate m 0, false⟩, ⟨ka, kn, kc⟩, ⟨va, vn, vc⟩, ⟨ta, tn, tc⟩, List.replicate 9 0, List.replicate 12 false, rfl, ⟨((((E1.out.alloc _).trans E3.out).alloc _).alloc _).alloc _, ?_, ?_, ?_, ?_⟩, S3.out.ext (((Ext.new _ _).alloc _).alloc _), HR0.out, HT0.out⟩
    · exact ((((Cb.new w1 [.int .i64 5, .int .i64 1, .int .i64 (m : Int)] 26).ext E3.out).alloc _).alloc _).alloc _
    · repeat (first | ((with_reducible refine Cb.at _ rfl ?_); (simp; done)) | with_reducible refine Cb.alloc ?_ _)
    · repeat (first | ((with_reducible refine Cb.at _ rfl ?_); (simp; done)) | with_reducible refine Cb.alloc ?_ _)
    · repeat (first | ((with_reducible refine Cb.at _ rfl ?_); (simp; done)) | with_reducible refine Cb.alloc ?_ _))
  go_loopw [11, 12] (fun cv iv wr => ∃ i : Nat, iv = .int .i64 i ∧ i ≤ 30 ∧ BLoop w wr w1.heap.size w3.heap.size (w3.heap.size + 1) (w3.heap.size + 1 + 1) m cv) (fun _ iv _ => 30 - (intOf iv).toNat)
  case atStart => exact ⟨0, rfl, by omega, HB0.out⟩
  case round =>
    obtain ⟨i, rfl, hi30, ⟨sr, sk, su, sw, scl⟩, ⟨ka4, kn4, kc4⟩, ⟨va4, vn4, vc4⟩, ⟨ta4, tn4, tc4⟩, cnt, vt, rfl, hB⟩ := hrel
    clear HB0 HR0 HT0 HA HP HN hwm hwm2 hwm3 S3
    by_cases hin : i < n ∧ i < 30
    · obtain ⟨hin, hi3⟩ := hin
      obtain ⟨rx, ry, rz, ux, uy, uz, b, o, esl, cx, cy, cz⟩ := HTS.out.2 i hin
      subst esl
      have HPv := Lib.hid (fun W => pick_any ry (m : Int) W uy (by omega))
      obtain ⟨v, hv, ev⟩ := pick_nat ry m (by omega)
      rw [ev] at HPv
      have HPx := Lib.hid (fun W => pick_any rz 8 W uz (by decide))
      obtain ⟨x, hx, ex⟩ := pick_nat rz 8 (by decide)
      rw [show ((8 : Nat) : Int) = 8 from rfl] at ex
      rw [ex] at HPx
      have HPc := Lib.hid (fun W => pick_any rx 20 W ux (by decide))
      obtain ⟨q, hq, eq⟩ := pick_nat rx 20 (by decide)
      rw [show ((20 : Nat) : Int) = 20 from rfl] at eq
      rw [eq] at HPc
      clear ev ex eq ux uy uz
      have hii : (i : Int) < n := by omega
      have hi3i : (i : Int) < 30 := by omega
      have cx2 := hB.b.ex.cell cx
      have cy2 := hB.b.ex.cell cy
      have cz2 := hB.b.ex.cell cz
      obtain ⟨c0, c1, c2⟩ := hB.b.bc.three
      have HB := Lib.hid hB
      clear cx cy cz hB
      have HPq : RowKit.Hid (∀ j : Nat, Calls Try.prog 5 #[.int .i64 ry, .int .i64 (m : Int)] (wr.drewN j) fun e w' => e = .returned (.int .i64 (v : Int)) ∧ ∃ j, w' = wr.drewN j) := Lib.hid (fun j => (HPv.out _).mono fun _ _ h => ⟨h.1, j, h.2.symm⟩)
      go_wp2_with (fail)
      go_quiet ((go_at_call 5; exact HPq.out _))
      have HBd := Lib.hid (HB.out.ext (Ext.draws _ nq))
      clear c0 c1 c2 HB
      have cx3 := (Ext.draws wr nq).cell cx2
      have cz3 := (Ext.draws wr nq).cell cz2
      clear cx2 cy2 cz2
      generalize wr.drewN nq = wd at HBd cx3 cz3 ⊢
      obtain ⟨X, eX⟩ : ∃ X : Nat, x + 1 = X := ⟨_, rfl⟩
      have hX1 : 1 ≤ X := by omega
      have hX8 : X ≤ 8 := by omega
      have hw4 := Lib.hid (w64_is eX (by omega))
      have huv4 := Lib.hid (u64_is (v := v) (by omega))
      clear eX
      have cx4 := (Ext.new wd (.cells #[.int .i64 12, .int .u64 (v : Int), .int .u64 (X : Int)] 39)).cell cx3
      have HBa := Lib.hid (HBd.out.ext (Ext.new wd (.cells #[.int .i64 12, .int .u64 (v : Int), .int .u64 (X : Int)] 39)))
      obtain ⟨c0, c1, c2⟩ := HBa.out.b.bc.three
      obtain ⟨s0, s1, s2, s3, s4⟩ := HBa.out.b.bs.five
      have hop : Cb (wd.alloc (.cells #[.int .i64 12, .int .u64 (v : Int), .int .u64 (X : Int)] 39)) wd.heap.size [.int .i64 12, .int .u64 (v : Int), .int .u64 (X : Int)] := Cb.new wd _ _
      by_cases hq0 : q = 0
      · subst hq0
        have HBc := Lib.hid (HBd.out.ext (Ext.new wd (.cells #[.int .i64 13, .int .u64 0, .int .u64 0] 39)))
        have hopc : Cb (wd.alloc (.cells #[.int .i64 13, .int .u64 0, .int .u64 0] 39)) wd.heap.size [.int .i64 13, .int .u64 0, .int .u64 0] := Cb.new wd _ _
        obtain ⟨hwx, hwx2, hwx3, hux⟩ := hw4.out
        clear hwx3
        have huv := huv4.out
        go_wp2_with (fail)
        refine (HPx.out _).mono ?_
        rintro e w4 ⟨rfl, rfl⟩
        go_wp2_with (fail)
        clear hwx hwx2 hux huv
        clear c0 c1 c2 s0 s1 s2 s3 s4
        obtain ⟨c0, c1, c2⟩ := HBc.out.b.bc.three
        obtain ⟨s0, s1, s2, s3, s4⟩ := HBc.out.b.bs.five
        obtain ⟨o0, o1, o2⟩ := hopc.three
        refine (HPc.out _).mono ?_
        rintro e w4 ⟨rfl, rfl⟩
        go_wp2_with (fail)
        have hRn : rightS 5 1 (m : Int) ⟨sr, sk, su, sw, true⟩ = true := by
          have hd := (do_right HBc.out.ri HBc.out.ss.wd ⟨13, 0, 0⟩ (wc_lit (by decide +kernel))).1
          have he := do_close HBc.out.ri
          rw [do_bal HBc.out.ri] at he
          unfold doS at hd
          rw [if_neg (by decide), if_neg (show ¬ keyed 5 = true by decide)] at hd
          rw [(Prod.mk.inj he).1] at hd; exact hd
        cases scl
        · have hDo := do_all 5 1 (m : Int) ⟨ka4, kn4, kc4⟩ ⟨va4, vn4, vc4⟩ ⟨ta4, tn4, tc4⟩ ⟨sr, sk, su, sw, false⟩ ⟨13, 0, 0⟩ _ HBc.out.ss (wc_lit (by decide +kernel))
          rw [do_shut0 HBc.out.ri rfl] at hDo
          refine hDo.mono ?_
          rintro e w5 ⟨e5, ⟨k5, n5, c5⟩, ⟨p5, q5, r5⟩, ⟨x5, y5, u5⟩, rfl, S5⟩
          clear hDo c0 c1 c2 s0 s1 s2 s3 s4 o0 o1 o2
          dsimp only [sv, rv, bitZ, Bool.not_true, Bool.not_false] at *
          have hlt5 : (w3.heap.size + 1 + 1) < w5.heap.size := (HBc.out.b.bv.ext e5).lt
          have hez : Ext w5 (((w5.alloc (.cells #[.int .u64 sr, .slice k5 n5 c5, .slice p5 q5 r5, .slice x5 y5 u5, .bool true] 31)).alloc (.cells #[.int .i64 0, .int .u64 1] 41)).alloc (.cells #[.int .i64 0, .int .u64 0] 41)) := (((Ext.new w5 (.cells #[.int .u64 sr, .slice k5 n5 c5, .slice p5 q5 r5, .slice x5 y5 u5, .bool true] 31)).alloc (.cells #[.int .i64 0, .int .u64 1] 41)).alloc (.cells #[.int .i64 0, .int .u64 0] 41))
          have HBz := (HBc.out.b.ext e5).ext hez
          have hopz := (hopc.ext e5).ext hez
          have o0 := hopz.c 0 _ rfl
          have SZ := S5.ext hez
          have b16 : Cb (((w5.alloc (.cells #[.int .u64 sr, .slice k5 n5 c5, .slice p5 q5 r5, .slice x5 y5 u5, .bool true] 31)).alloc (.cells #[.int .i64 0, .int .u64 1] 41)).alloc (.cells #[.int .i64 0, .int .u64 0] 41)) (w5.heap.size) (sc sr ⟨k5, n5, c5⟩ ⟨p5, q5, r5⟩ ⟨x5, y5, u5⟩ true) := by repeat (first | ((with_reducible refine Cb.at _ rfl ?_); (simp; done)) | with_reducible refine Cb.alloc ?_ _)
          have b17 : Cb (((w5.alloc (.cells #[.int .u64 sr, .slice k5 n5 c5, .slice p5 q5 r5, .slice x5 y5 u5, .bool true] 31)).alloc (.cells #[.int .i64 0, .int .u64 1] 41)).alloc (.cells #[.int .i64 0, .int .u64 0] 41)) (w5.heap.size + 1) [.int .i64 0, .int .u64 1] := by repeat (first | ((with_reducible refine Cb.at _ rfl ?_); (simp; done)) | with_reducible refine Cb.alloc ?_ _)
          have b19 : Cb (((w5.alloc (.cells #[.int .u64 sr, .slice k5 n5 c5, .slice p5 q5 r5, .slice x5 y5 u5, .bool true] 31)).alloc (.cells #[.int .i64 0, .int .u64 1] 41)).alloc (.cells #[.int .i64 0, .int .u64 0] 41)) (w5.heap.size + 1 + 1) [.int .i64 0, .int .u64 0] := by repeat (first | ((with_reducible refine Cb.at _ rfl ?_); (simp; done)) | with_reducible refine Cb.alloc ?_ _)
          obtain ⟨y0, y1⟩ := b19.two
          have z0 := b19.f 0
          have z1 := b19.f 1
          have hez1 : Ext w5 (((w5.alloc (.cells #[.int .u64 sr, .slice k5 n5 c5, .slice p5 q5 r5, .slice x5 y5 u5, .bool true] 31)).alloc (.cells #[.int .i64 0, .int .u64 1] 41)).alloc (.cells #[.int .i64 0, .int .u64 1] 41)) := (((Ext.new w5 (.cells #[.int .u64 sr, .slice k5 n5 c5, .slice p5 q5 r5, .slice x5 y5 u5, .bool true] 31)).alloc (.cells #[.int .i64 0, .int .u64 1] 41)).alloc (.cells #[.int .i64 0, .int .u64 1] 41))
          have HBz1 := (HBc.out.b.ext e5).ext hez1
          have SZ1 := S5.ext hez1
          have o01 := ((hopc.ext e5).ext hez1).c 0 _ rfl
          have b161 : Cb (((w5.alloc (.cells #[.int .u64 sr, .slice k5 n5 c5, .slice p5 q5 r5, .slice x5 y5 u5, .bool true] 31)).alloc (.cells #[.int .i64 0, .int .u64 1] 41)).alloc (.cells #[.int .i64 0, .int .u64 1] 41)) (w5.heap.size) (sc sr ⟨k5, n5, c5⟩ ⟨p5, q5, r5⟩ ⟨x5, y5, u5⟩ true) := by repeat (first | ((with_reducible refine Cb.at _ rfl ?_); (simp; done)) | with_reducible refine Cb.alloc ?_ _)
          have b171 : Cb (((w5.alloc (.cells #[.int .u64 sr, .slice k5 n5 c5, .slice p5 q5 r5, .slice x5 y5 u5, .bool true] 31)).alloc (.cells #[.int .i64 0, .int .u64 1] 41)).alloc (.cells #[.int .i64 0, .int .u64 1] 41)) (w5.heap.size + 1) [.int .i64 0, .int .u64 1] := by repeat (first | ((with_reducible refine Cb.at _ rfl ?_); (simp; done)) | with_reducible refine Cb.alloc ?_ _)
          have b191 : Cb (((w5.alloc (.cells #[.int .u64 sr, .slice k5 n5 c5, .slice p5 q5 r5, .slice x5 y5 u5, .bool true] 31)).alloc (.cells #[.int .i64 0, .int .u64 1] 41)).alloc (.cells #[.int .i64 0, .int .u64 1] 41)) (w5.heap.size + 1 + 1) [.int .i64 0, .int .u64 1] := by repeat (first | ((with_reducible refine Cb.at _ rfl ?_); (simp; done)) | with_reducible refine Cb.alloc ?_ _)
          obtain ⟨k0, k1, k2, k3, k4⟩ := b161.five
          obtain ⟨l0, l1⟩ := b171.two
          obtain ⟨m0, m1⟩ := b191.two
          obtain ⟨t0, t1, t2, t3, t4⟩ := HBz1.bs.five
          have f0 := HBz1.bs.f 0
          have f1 := HBz1.bs.f 1
          have f2 := HBz1.bs.f 2
          have f3 := HBz1.bs.f 3
          have f4 := HBz1.bs.f 4
          have HBf := Lib.hid (HBz1.store (by omega) (by omega) (by omega) (by omega) SZ1 hRn (Tal.close HBc.out.ta))
          clear HBz SZ b16 b17 b19 hopz hez e5 S5 HBz1 SZ1 b161 b171 b191 hez1
          dsimp only [sc] at *
          go_wp2_with (fail)
          go_roundw
          case rel => first | exact ⟨i + 1, by go_num, by omega, _, _, _, _, _, _, rfl, HBf.out⟩ | ((repeat apply Exists.intro); exact ⟨⟨i + 1, by go_num, by omega, _, _, _, _, _, _, rfl, HBf.out⟩, rfl⟩)
          case measure => simp [intOf]; omega
        · have hDo := do_all 5 1 (m : Int) ⟨ka4, kn4, kc4⟩ ⟨va4, vn4, vc4⟩ ⟨ta4, tn4, tc4⟩ ⟨sr, sk, su, sw, true⟩ ⟨13, 0, 0⟩ _ HBc.out.ss (wc_lit (by decide +kernel))
          rw [do_shut1 HBc.out.ri rfl] at hDo
          refine hDo.mono ?_
          rintro e w5 ⟨e5, ⟨k5, n5, c5⟩, ⟨p5, q5, r5⟩, ⟨x5, y5, u5⟩, rfl, S5⟩
          clear hDo c0 c1 c2 s0 s1 s2 s3 s4 o0 o1 o2
          dsimp only [sv, rv, bitZ, Bool.not_true, Bool.not_false] at *
          have hlt5 : (w3.heap.size + 1 + 1) < w5.heap.size := (HBc.out.b.bv.ext e5).lt
          have hez : Ext w5 (((w5.alloc (.cells #[.int .u64 sr, .slice k5 n5 c5, .slice p5 q5 r5, .slice x5 y5 u5, .bool true] 31)).alloc (.cells #[.int .i64 0, .int .u64 0] 41)).alloc (.cells #[.int .i64 0, .int .u64 0] 41)) := (((Ext.new w5 (.cells #[.int .u64 sr, .slice k5 n5 c5, .slice p5 q5 r5, .slice x5 y5 u5, .bool true] 31)).alloc (.cells #[.int .i64 0, .int .u64 0] 41)).alloc (.cells #[.int .i64 0, .int .u64 0] 41))
          have HBz := (HBc.out.b.ext e5).ext hez
          have hopz := (hopc.ext e5).ext hez
          have o0 := hopz.c 0 _ rfl
          have SZ := S5.ext hez
          have b16 : Cb (((w5.alloc (.cells #[.int .u64 sr, .slice k5 n5 c5, .slice p5 q5 r5, .slice x5 y5 u5, .bool true] 31)).alloc (.cells #[.int .i64 0, .int .u64 0] 41)).alloc (.cells #[.int .i64 0, .int .u64 0] 41)) (w5.heap.size) (sc sr ⟨k5, n5, c5⟩ ⟨p5, q5, r5⟩ ⟨x5, y5, u5⟩ true) := by repeat (first | ((with_reducible refine Cb.at _ rfl ?_); (simp; done)) | with_reducible refine Cb.alloc ?_ _)
          have b17 : Cb (((w5.alloc (.cells #[.int .u64 sr, .slice k5 n5 c5, .slice p5 q5 r5, .slice x5 y5 u5, .bool true] 31)).alloc (.cells #[.int .i64 0, .int .u64 0] 41)).alloc (.cells #[.int .i64 0, .int .u64 0] 41)) (w5.heap.size + 1) [.int .i64 0, .int .u64 0] := by repeat (first | ((with_reducible refine Cb.at _ rfl ?_); (simp; done)) | with_reducible refine Cb.alloc ?_ _)
          have b19 : Cb (((w5.alloc (.cells #[.int .u64 sr, .slice k5 n5 c5, .slice p5 q5 r5, .slice x5 y5 u5, .bool true] 31)).alloc (.cells #[.int .i64 0, .int .u64 0] 41)).alloc (.cells #[.int .i64 0, .int .u64 0] 41)) (w5.heap.size + 1 + 1) [.int .i64 0, .int .u64 0] := by repeat (first | ((with_reducible refine Cb.at _ rfl ?_); (simp; done)) | with_reducible refine Cb.alloc ?_ _)
          obtain ⟨y0, y1⟩ := b19.two
          have z0 := b19.f 0
          have z1 := b19.f 1
          obtain ⟨k0, k1, k2, k3, k4⟩ := b16.five
          obtain ⟨l0, l1⟩ := b17.two
          obtain ⟨m0, m1⟩ := b19.two
          obtain ⟨t0, t1, t2, t3, t4⟩ := HBz.bs.five
          have f0 := HBz.bs.f 0
          have f1 := HBz.bs.f 1
          have f2 := HBz.bs.f 2
          have f3 := HBz.bs.f 3
          have f4 := HBz.bs.f 4
          have HBf := Lib.hid (HBz.store (by omega) (by omega) (by omega) (by omega) SZ HBc.out.ri HBc.out.ta)
          clear HBz SZ b16 b17 b19 hopz hez e5 S5
          dsimp only [sc] at *
          go_wp2_with (fail)
          go_roundw
          case rel => first | exact ⟨i + 1, by go_num, by omega, _, _, _, _, _, _, rfl, HBf.out⟩ | ((repeat apply Exists.intro); exact ⟨⟨i + 1, by go_num, by omega, _, _, _, _, _, _, rfl, HBf.out⟩, rfl⟩)
          case measure => simp [intOf]; omega
      · have hqb : ((q : Int) == 0) = false := by simp; omega
        obtain ⟨o0, o1, o2⟩ := hop.three
        obtain ⟨hwx, hwx2, hwx3, hux⟩ := hw4.out
        clear hwx3
        have huv := huv4.out
        go_wp2_with (fail)
        refine (HPx.out _).mono ?_
        rintro e w4 ⟨rfl, rfl⟩
        go_wp2_with (fail)
        clear hwx hwx2 hux huv
        refine (HPc.out _).mono ?_
        rintro e w4 ⟨rfl, rfl⟩
        go_wp2_with (fail)
        have hvm : (v : Int) < (m : Int) := by omega
        cases scl
        · by_cases hvo : sw.getD v 0 = 0
          · have hvd : decide (sw.getD v 0 ≠ 0) = false := decide_eq_false (by simpa using hvo)
            have hRn : rightS 5 1 (m : Int) ⟨sr, sk, su, sw.set v (X : Int), false⟩ = true := by
              have hd := (do_right HBa.out.ri HBa.out.ss.wd ⟨12, (v : Int), (X : Int)⟩ (wc_cast (by omega) (by omega))).1
              have he := do_vote HBa.out.ri hvm hX1 hX8 rfl hvo
              rw [do_bal HBa.out.ri] at he
              unfold doS at hd
              rw [if_neg (by decide), if_neg (show ¬ keyed 5 = true by decide)] at hd
              rw [(Prod.mk.inj he).1] at hd; exact hd
            have hml : sw.length = m := by have := (right_bal HBa.out.ri).2.2.2.1; dsimp only at this; omega
            have hTn := HBa.out.ta.vote hml hm12 hv hX1 hX8 hvo
            have hbd : tallyL sw (X : Int) ≤ 256 := Nat.le_trans (tal_bound sw (X : Int)) (by omega)
            have hwt4 := Lib.hid (u64_up hbd)
            have hDo := do_all 5 1 (m : Int) ⟨ka4, kn4, kc4⟩ ⟨va4, vn4, vc4⟩ ⟨ta4, tn4, tc4⟩ ⟨sr, sk, su, sw, false⟩ ⟨12, (v : Int), (X : Int)⟩ _ HBa.out.ss (wc_cast (by omega) (by omega))
            rw [do_vote HBa.out.ri hvm hX1 hX8 rfl hvo] at hDo
            refine hDo.mono ?_
            rintro e w5 ⟨e5, ⟨k5, n5, c5⟩, ⟨p5, q5, r5⟩, ⟨x5, y5, u5⟩, rfl, S5⟩
            clear hDo c0 c1 c2 s0 s1 s2 s3 s4 o0 o1 o2
            dsimp only [sv, rv, bitZ, Bool.not_true, Bool.not_false] at *
            have hlt5 : (w3.heap.size + 1 + 1) < w5.heap.size := (HBa.out.b.bv.ext e5).lt
            have hez : Ext w5 (((w5.alloc (.cells #[.int .u64 sr, .slice k5 n5 c5, .slice p5 q5 r5, .slice x5 y5 u5, .bool false] 31)).alloc (.cells #[.int .i64 0, .int .u64 0] 41)).alloc (.cells #[.int .i64 0, .int .u64 0] 41)) := (((Ext.new w5 (.cells #[.int .u64 sr, .slice k5 n5 c5, .slice p5 q5 r5, .slice x5 y5 u5, .bool false] 31)).alloc (.cells #[.int .i64 0, .int .u64 0] 41)).alloc (.cells #[.int .i64 0, .int .u64 0] 41))
            have HBz := (HBa.out.b.ext e5).ext hez
            have hopz := (hop.ext e5).ext hez
            have o0 := hopz.c 0 _ rfl
            have SZ := S5.ext hez
            have b16 : Cb (((w5.alloc (.cells #[.int .u64 sr, .slice k5 n5 c5, .slice p5 q5 r5, .slice x5 y5 u5, .bool false] 31)).alloc (.cells #[.int .i64 0, .int .u64 0] 41)).alloc (.cells #[.int .i64 0, .int .u64 0] 41)) (w5.heap.size) (sc sr ⟨k5, n5, c5⟩ ⟨p5, q5, r5⟩ ⟨x5, y5, u5⟩ false) := by repeat (first | ((with_reducible refine Cb.at _ rfl ?_); (simp; done)) | with_reducible refine Cb.alloc ?_ _)
            have b17 : Cb (((w5.alloc (.cells #[.int .u64 sr, .slice k5 n5 c5, .slice p5 q5 r5, .slice x5 y5 u5, .bool false] 31)).alloc (.cells #[.int .i64 0, .int .u64 0] 41)).alloc (.cells #[.int .i64 0, .int .u64 0] 41)) (w5.heap.size + 1) [.int .i64 0, .int .u64 0] := by repeat (first | ((with_reducible refine Cb.at _ rfl ?_); (simp; done)) | with_reducible refine Cb.alloc ?_ _)
            have b19 : Cb (((w5.alloc (.cells #[.int .u64 sr, .slice k5 n5 c5, .slice p5 q5 r5, .slice x5 y5 u5, .bool false] 31)).alloc (.cells #[.int .i64 0, .int .u64 0] 41)).alloc (.cells #[.int .i64 0, .int .u64 0] 41)) (w5.heap.size + 1 + 1) [.int .i64 0, .int .u64 0] := by repeat (first | ((with_reducible refine Cb.at _ rfl ?_); (simp; done)) | with_reducible refine Cb.alloc ?_ _)
            obtain ⟨y0, y1⟩ := b19.two
            have z0 := b19.f 0
            have z1 := b19.f 1
            obtain ⟨g0, g1⟩ := HBz.voted HBa.out.ta hv
            rw [hvd] at g0
            have HVm : ((((w5.alloc (.cells #[.int .u64 sr, .slice k5 n5 c5, .slice p5 q5 r5, .slice x5 y5 u5, .bool false] 31)).alloc (.cells #[.int .i64 0, .int .u64 0] 41)).alloc (.cells #[.int .i64 0, .int .u64 0] 41)).setCell ⟨(w3.heap.size + 1 + 1), v, none⟩ (.bool true)).cell? ⟨(w3.heap.size + 1), X, none⟩ = some (.int .u64 (tallyL sw (X : Int) : Int)) := (cell_far (by omega)).trans (HBz.count HBa.out.ta hX1 hX8).1
            have HVf : ((((w5.alloc (.cells #[.int .u64 sr, .slice k5 n5 c5, .slice p5 q5 r5, .slice x5 y5 u5, .bool false] 31)).alloc (.cells #[.int .i64 0, .int .u64 0] 41)).alloc (.cells #[.int .i64 0, .int .u64 0] 41)).setCell ⟨(w3.heap.size + 1 + 1), v, none⟩ (.bool true)).frozen? ⟨(w3.heap.size + 1), X, none⟩ = false := (World.frozen?_setCell ..).trans (HBz.count HBa.out.ta hX1 hX8).2
            have hmk := HBz.mark (i := v) (x := X) (by omega) (by omega) (by omega) (by omega) (by omega) (by omega) (by omega) HBa.out.ta.lc HBa.out.ta.lv (by omega) (by omega) ((tallyL sw (X : Int) : Int) + 1) SZ hRn
            obtain ⟨HBm, SZm⟩ := hmk
            have b16m := (b16.far (B := (w3.heap.size + 1 + 1)) (by omega) v (.bool true)).far (B := (w3.heap.size + 1)) (by omega) X (.int .u64 ((tallyL sw (X : Int) : Int) + 1))
            have b17m := (b17.far (B := (w3.heap.size + 1 + 1)) (by omega) v (.bool true)).far (B := (w3.heap.size + 1)) (by omega) X (.int .u64 ((tallyL sw (X : Int) : Int) + 1))
            have b19m := (b19.far (B := (w3.heap.size + 1 + 1)) (by omega) v (.bool true)).far (B := (w3.heap.size + 1)) (by omega) X (.int .u64 ((tallyL sw (X : Int) : Int) + 1))
            obtain ⟨k0, k1, k2, k3, k4⟩ := b16m.five
            obtain ⟨l0, l1⟩ := b17m.two
            obtain ⟨m0, m1⟩ := b19m.two
            obtain ⟨t0, t1, t2, t3, t4⟩ := HBm.bs.five
            have f0 := HBm.bs.f 0
            have f1 := HBm.bs.f 1
            have f2 := HBm.bs.f 2
            have f3 := HBm.bs.f 3
            have f4 := HBm.bs.f 4
            have HBf := Lib.hid (HBm.store (by omega) (by omega) (by omega) (by omega) SZm hRn hTn)
            clear HBz SZ b16 b17 b19 hopz hez e5 S5 HBm SZm b16m b17m b19m hTn hRn hml hbd
            have hwt := hwt4.out
            dsimp only [sc] at *
            go_wp2_with (fail)
            go_roundw
            case rel => first | exact ⟨i + 1, by go_num, by omega, _, _, _, _, _, _, rfl, HBf.out⟩ | ((repeat apply Exists.intro); exact ⟨⟨i + 1, by go_num, by omega, _, _, _, _, _, _, rfl, HBf.out⟩, rfl⟩)
            case measure => simp [intOf]; omega
          · have hvd : decide (sw.getD v 0 ≠ 0) = true := decide_eq_true hvo
            have hDo := do_all 5 1 (m : Int) ⟨ka4, kn4, kc4⟩ ⟨va4, vn4, vc4⟩ ⟨ta4, tn4, tc4⟩ ⟨sr, sk, su, sw, false⟩ ⟨12, (v : Int), (X : Int)⟩ _ HBa.out.ss (wc_cast (by omega) (by omega))
            rw [do_twice HBa.out.ri hvm hX1 hX8 rfl hvo] at hDo
            refine hDo.mono ?_
            rintro e w5 ⟨e5, ⟨k5, n5, c5⟩, ⟨p5, q5, r5⟩, ⟨x5, y5, u5⟩, rfl, S5⟩
            clear hDo c0 c1 c2 s0 s1 s2 s3 s4 o0 o1 o2
            dsimp only [sv, rv, bitZ, Bool.not_true, Bool.not_false] at *
            have hlt5 : (w3.heap.size + 1 + 1) < w5.heap.size := (HBa.out.b.bv.ext e5).lt
            have hez : Ext w5 (((w5.alloc (.cells #[.int .u64 sr, .slice k5 n5 c5, .slice p5 q5 r5, .slice x5 y5 u5, .bool false] 31)).alloc (.cells #[.int .i64 13, .int .u64 0] 41)).alloc (.cells #[.int .i64 0, .int .u64 0] 41)) := (((Ext.new w5 (.cells #[.int .u64 sr, .slice k5 n5 c5, .slice p5 q5 r5, .slice x5 y5 u5, .bool false] 31)).alloc (.cells #[.int .i64 13, .int .u64 0] 41)).alloc (.cells #[.int .i64 0, .int .u64 0] 41))
            have HBz := (HBa.out.b.ext e5).ext hez
            have hopz := (hop.ext e5).ext hez
            have o0 := hopz.c 0 _ rfl
            have SZ := S5.ext hez
            have b16 : Cb (((w5.alloc (.cells #[.int .u64 sr, .slice k5 n5 c5, .slice p5 q5 r5, .slice x5 y5 u5, .bool false] 31)).alloc (.cells #[.int .i64 13, .int .u64 0] 41)).alloc (.cells #[.int .i64 0, .int .u64 0] 41)) (w5.heap.size) (sc sr ⟨k5, n5, c5⟩ ⟨p5, q5, r5⟩ ⟨x5, y5, u5⟩ false) := by repeat (first | ((with_reducible refine Cb.at _ rfl ?_); (simp; done)) | with_reducible refine Cb.alloc ?_ _)
            have b17 : Cb (((w5.alloc (.cells #[.int .u64 sr, .slice k5 n5 c5, .slice p5 q5 r5, .slice x5 y5 u5, .bool false] 31)).alloc (.cells #[.int .i64 13, .int .u64 0] 41)).alloc (.cells #[.int .i64 0, .int .u64 0] 41)) (w5.heap.size + 1) [.int .i64 13, .int .u64 0] := by repeat (first | ((with_reducible refine Cb.at _ rfl ?_); (simp; done)) | with_reducible refine Cb.alloc ?_ _)
            have b19 : Cb (((w5.alloc (.cells #[.int .u64 sr, .slice k5 n5 c5, .slice p5 q5 r5, .slice x5 y5 u5, .bool false] 31)).alloc (.cells #[.int .i64 13, .int .u64 0] 41)).alloc (.cells #[.int .i64 0, .int .u64 0] 41)) (w5.heap.size + 1 + 1) [.int .i64 0, .int .u64 0] := by repeat (first | ((with_reducible refine Cb.at _ rfl ?_); (simp; done)) | with_reducible refine Cb.alloc ?_ _)
            obtain ⟨y0, y1⟩ := b19.two
            have z0 := b19.f 0
            have z1 := b19.f 1
            have hez1 : Ext w5 (((w5.alloc (.cells #[.int .u64 sr, .slice k5 n5 c5, .slice p5 q5 r5, .slice x5 y5 u5, .bool false] 31)).alloc (.cells #[.int .i64 13, .int .u64 0] 41)).alloc (.cells #[.int .i64 13, .int .u64 0] 41)) := (((Ext.new w5 (.cells #[.int .u64 sr, .slice k5 n5 c5, .slice p5 q5 r5, .slice x5 y5 u5, .bool false] 31)).alloc (.cells #[.int .i64 13, .int .u64 0] 41)).alloc (.cells #[.int .i64 13, .int .u64 0] 41))
            have HBz1 := (HBa.out.b.ext e5).ext hez1
            have SZ1 := S5.ext hez1
            have o01 := ((hop.ext e5).ext hez1).c 0 _ rfl
            have b161 : Cb (((w5.alloc (.cells #[.int .u64 sr, .slice k5 n5 c5, .slice p5 q5 r5, .slice x5 y5 u5, .bool false] 31)).alloc (.cells #[.int .i64 13, .int .u64 0] 41)).alloc (.cells #[.int .i64 13, .int .u64 0] 41)) (w5.heap.size) (sc sr ⟨k5, n5, c5⟩ ⟨p5, q5, r5⟩ ⟨x5, y5, u5⟩ false) := by repeat (first | ((with_reducible refine Cb.at _ rfl ?_); (simp; done)) | with_reducible refine Cb.alloc ?_ _)
            have b171 : Cb (((w5.alloc (.cells #[.int .u64 sr, .slice k5 n5 c5, .slice p5 q5 r5, .slice x5 y5 u5, .bool false] 31)).alloc (.cells #[.int .i64 13, .int .u64 0] 41)).alloc (.cells #[.int .i64 13, .int .u64 0] 41)) (w5.heap.size + 1) [.int .i64 13, .int .u64 0] := by repeat (first | ((with_reducible refine Cb.at _ rfl ?_); (simp; done)) | with_reducible refine Cb.alloc ?_ _)
            have b191 : Cb (((w5.alloc (.cells #[.int .u64 sr, .slice k5 n5 c5, .slice p5 q5 r5, .slice x5 y5 u5, .bool false] 31)).alloc (.cells #[.int .i64 13, .int .u64 0] 41)).alloc (.cells #[.int .i64 13, .int .u64 0] 41)) (w5.heap.size + 1 + 1) [.int .i64 13, .int .u64 0] := by repeat (first | ((with_reducible refine Cb.at _ rfl ?_); (simp; done)) | with_reducible refine Cb.alloc ?_ _)
            obtain ⟨g0, g1⟩ := HBz.voted HBa.out.ta hv
            rw [hvd] at g0
            obtain ⟨k0, k1, k2, k3, k4⟩ := b161.five
            obtain ⟨l0, l1⟩ := b171.two
            obtain ⟨m0, m1⟩ := b191.two
            obtain ⟨t0, t1, t2, t3, t4⟩ := HBz1.bs.five
            have f0 := HBz1.bs.f 0
            have f1 := HBz1.bs.f 1
            have f2 := HBz1.bs.f 2
            have f3 := HBz1.bs.f 3
            have f4 := HBz1.bs.f 4
            have HBf := Lib.hid (HBz1.store (by omega) (by omega) (by omega) (by omega) SZ1 HBa.out.ri HBa.out.ta)
            clear HBz SZ b16 b17 b19 hopz hez e5 S5 HBz1 SZ1 b161 b171 b191 hez1
            dsimp only [sc] at *
            go_wp2_with (fail)
            go_roundw
            case rel => first | exact ⟨i + 1, by go_num, by omega, _, _, _, _, _, _, rfl, HBf.out⟩ | ((repeat apply Exists.intro); exact ⟨⟨i + 1, by go_num, by omega, _, _, _, _, _, _, rfl, HBf.out⟩, rfl⟩)
            case measure => simp [intOf]; omega
        · have hDo := do_all 5 1 (m : Int) ⟨ka4, kn4, kc4⟩ ⟨va4, vn4, vc4⟩ ⟨ta4, tn4, tc4⟩ ⟨sr, sk, su, sw, true⟩ ⟨12, (v : Int), (X : Int)⟩ _ HBa.out.ss (wc_cast (by omega) (by omega))
          rw [do_late HBa.out.ri hvm hX1 hX8 rfl] at hDo
          refine hDo.mono ?_
          rintro e w5 ⟨e5, ⟨k5, n5, c5⟩, ⟨p5, q5, r5⟩, ⟨x5, y5, u5⟩, rfl, S5⟩
          clear hDo c0 c1 c2 s0 s1 s2 s3 s4 o0 o1 o2
          dsimp only [sv, rv, bitZ, Bool.not_true, Bool.not_false] at *
          have hlt5 : (w3.heap.size + 1 + 1) < w5.heap.size := (HBa.out.b.bv.ext e5).lt
          have hez : Ext w5 (((w5.alloc (.cells #[.int .u64 sr, .slice k5 n5 c5, .slice p5 q5 r5, .slice x5 y5 u5, .bool true] 31)).alloc (.cells #[.int .i64 14, .int .u64 0] 41)).alloc (.cells #[.int .i64 0, .int .u64 0] 41)) := (((Ext.new w5 (.cells #[.int .u64 sr, .slice k5 n5 c5, .slice p5 q5 r5, .slice x5 y5 u5, .bool true] 31)).alloc (.cells #[.int .i64 14, .int .u64 0] 41)).alloc (.cells #[.int .i64 0, .int .u64 0] 41))
          have HBz := (HBa.out.b.ext e5).ext hez
          have hopz := (hop.ext e5).ext hez
          have o0 := hopz.c 0 _ rfl
          have SZ := S5.ext hez
          have b16 : Cb (((w5.alloc (.cells #[.int .u64 sr, .slice k5 n5 c5, .slice p5 q5 r5, .slice x5 y5 u5, .bool true] 31)).alloc (.cells #[.int .i64 14, .int .u64 0] 41)).alloc (.cells #[.int .i64 0, .int .u64 0] 41)) (w5.heap.size) (sc sr ⟨k5, n5, c5⟩ ⟨p5, q5, r5⟩ ⟨x5, y5, u5⟩ true) := by repeat (first | ((with_reducible refine Cb.at _ rfl ?_); (simp; done)) | with_reducible refine Cb.alloc ?_ _)
          have b17 : Cb (((w5.alloc (.cells #[.int .u64 sr, .slice k5 n5 c5, .slice p5 q5 r5, .slice x5 y5 u5, .bool true] 31)).alloc (.cells #[.int .i64 14, .int .u64 0] 41)).alloc (.cells #[.int .i64 0, .int .u64 0] 41)) (w5.heap.size + 1) [.int .i64 14, .int .u64 0] := by repeat (first | ((with_reducible refine Cb.at _ rfl ?_); (simp; done)) | with_reducible refine Cb.alloc ?_ _)
          have b19 : Cb (((w5.alloc (.cells #[.int .u64 sr, .slice k5 n5 c5, .slice p5 q5 r5, .slice x5 y5 u5, .bool true] 31)).alloc (.cells #[.int .i64 14, .int .u64 0] 41)).alloc (.cells #[.int .i64 0, .int .u64 0] 41)) (w5.heap.size + 1 + 1) [.int .i64 0, .int .u64 0] := by repeat (first | ((with_reducible refine Cb.at _ rfl ?_); (simp; done)) | with_reducible refine Cb.alloc ?_ _)
          obtain ⟨y0, y1⟩ := b19.two
          have z0 := b19.f 0
          have z1 := b19.f 1
          have hez1 : Ext w5 (((w5.alloc (.cells #[.int .u64 sr, .slice k5 n5 c5, .slice p5 q5 r5, .slice x5 y5 u5, .bool true] 31)).alloc (.cells #[.int .i64 14, .int .u64 0] 41)).alloc (.cells #[.int .i64 14, .int .u64 0] 41)) := (((Ext.new w5 (.cells #[.int .u64 sr, .slice k5 n5 c5, .slice p5 q5 r5, .slice x5 y5 u5, .bool true] 31)).alloc (.cells #[.int .i64 14, .int .u64 0] 41)).alloc (.cells #[.int .i64 14, .int .u64 0] 41))
          have HBz1 := (HBa.out.b.ext e5).ext hez1
          have SZ1 := S5.ext hez1
          have o01 := ((hop.ext e5).ext hez1).c 0 _ rfl
          have b161 : Cb (((w5.alloc (.cells #[.int .u64 sr, .slice k5 n5 c5, .slice p5 q5 r5, .slice x5 y5 u5, .bool true] 31)).alloc (.cells #[.int .i64 14, .int .u64 0] 41)).alloc (.cells #[.int .i64 14, .int .u64 0] 41)) (w5.heap.size) (sc sr ⟨k5, n5, c5⟩ ⟨p5, q5, r5⟩ ⟨x5, y5, u5⟩ true) := by repeat (first | ((with_reducible refine Cb.at _ rfl ?_); (simp; done)) | with_reducible refine Cb.alloc ?_ _)
          have b171 : Cb (((w5.alloc (.cells #[.int .u64 sr, .slice k5 n5 c5, .slice p5 q5 r5, .slice x5 y5 u5, .bool true] 31)).alloc (.cells #[.int .i64 14, .int .u64 0] 41)).alloc (.cells #[.int .i64 14, .int .u64 0] 41)) (w5.heap.size + 1) [.int .i64 14, .int .u64 0] := by repeat (first | ((with_reducible refine Cb.at _ rfl ?_); (simp; done)) | with_reducible refine Cb.alloc ?_ _)
          have b191 : Cb (((w5.alloc (.cells #[.int .u64 sr, .slice k5 n5 c5, .slice p5 q5 r5, .slice x5 y5 u5, .bool true] 31)).alloc (.cells #[.int .i64 14, .int .u64 0] 41)).alloc (.cells #[.int .i64 14, .int .u64 0] 41)) (w5.heap.size + 1 + 1) [.int .i64 14, .int .u64 0] := by repeat (first | ((with_reducible refine Cb.at _ rfl ?_); (simp; done)) | with_reducible refine Cb.alloc ?_ _)
          obtain ⟨k0, k1, k2, k3, k4⟩ := b161.five
          obtain ⟨l0, l1⟩ := b171.two
          obtain ⟨m0, m1⟩ := b191.two
          obtain ⟨t0, t1, t2, t3, t4⟩ := HBz1.bs.five
          have f0 := HBz1.bs.f 0
          have f1 := HBz1.bs.f 1
          have f2 := HBz1.bs.f 2
          have f3 := HBz1.bs.f 3
          have f4 := HBz1.bs.f 4
          have HBf := Lib.hid (HBz1.store (by omega) (by omega) (by omega) (by omega) SZ1 HBa.out.ri HBa.out.ta)
          clear HBz SZ b16 b17 b19 hopz hez e5 S5 HBz1 SZ1 b161 b171 b191 hez1
          dsimp only [sc] at *
          go_wp2_with (fail)
          go_roundw
          case rel => first | exact ⟨i + 1, by go_num, by omega, _, _, _, _, _, _, rfl, HBf.out⟩ | ((repeat apply Exists.intro); exact ⟨⟨i + 1, by go_num, by omega, _, _, _, _, _, _, rfl, HBf.out⟩, rfl⟩)
          case measure => simp [intOf]; omega
    · rcases (by omega : ¬ i < n ∨ (i < n ∧ ¬ i < 30)) with hx0 | ⟨hx0, hx1⟩
      all_goals
        have hx2 : ¬ (i : Int) < n ∨ ¬ (i : Int) < 30 := by omega
        have HB := Lib.hid hB
        clear hB hin hx2
        go_wp2_with (fail)
        go_loopw [20] (fun kv wr => ∃ k : Nat, kv = .int .i64 k ∧ 1 ≤ k ∧ k ≤ 9 ∧ Bal w wr w1.heap.size w3.heap.size (w3.heap.size + 1) (w3.heap.size + 1 + 1) m ⟨sr, sk, su, sw, scl⟩ ⟨ka4, kn4, kc4⟩ ⟨va4, vn4, vc4⟩ ⟨ta4, tn4, tc4⟩ cnt vt) (fun kv _ => 9 - (intOf kv).toNat)
        case atStart => exact ⟨1, rfl, by omega, by omega, HB.out⟩
        case round =>
          obtain ⟨k, rfl, hk1, hk9, hBk⟩ := hrel
          by_cases hk : k ≤ 8
          · have hk8 : (k : Int) ≤ 8 := by omega
            have huk := Lib.hid (u64_is (v := k) (by omega))
            have hDo := Lib.hid (do_all 5 1 (m : Int) ⟨ka4, kn4, kc4⟩ ⟨va4, vn4, vc4⟩ ⟨ta4, tn4, tc4⟩ ⟨sr, sk, su, sw, scl⟩ ⟨14, (k : Int), 0⟩ _ hBk.ss (wc_tal (by omega)))
            rw [do_tally hBk.ri hk1 hk] at hDo
            obtain ⟨c0, c1, c2⟩ := hBk.b.bc.three
            obtain ⟨s0, s1, s2, s3, s4⟩ := hBk.b.bs.five
            have HBk := Lib.hid hBk
            have huk2 := huk.out
            clear hBk
            go_wp2_with (fail)
            clear huk2
            refine hDo.out.mono ?_
            rintro e w6 ⟨e6, ⟨k6, n6, c6⟩, ⟨p6, q6, r6⟩, ⟨x6, y6, u6⟩, rfl, S6⟩
            clear hDo c0 c1 c2 s0 s1 s2 s3 s4
            dsimp only [sv, rv] at *
            have HBz := Lib.hid ((HBk.out.ext e6).ext ((Ext.new w6 (.cells #[.int .u64 sr, .slice k6 n6 c6, .slice p6 q6 r6, .slice x6 y6 u6, .bool scl] 31)).alloc (.cells #[.int .i64 0, .int .u64 (tallyL sw (k : Int) : Int)] 41)))
            have b22 : Cb ((w6.alloc (.cells #[.int .u64 sr, .slice k6 n6 c6, .slice p6 q6 r6, .slice x6 y6 u6, .bool scl] 31)).alloc (.cells #[.int .i64 0, .int .u64 (tallyL sw (k : Int) : Int)] 41)) (w6.heap.size + 1) [.int .i64 0, .int .u64 (tallyL sw (k : Int) : Int)] := by repeat (first | ((with_reducible refine Cb.at _ rfl ?_); (simp; done)) | with_reducible refine Cb.alloc ?_ _)
            obtain ⟨l0, l1⟩ := b22.two
            obtain ⟨g0, g1⟩ := HBz.out.b.count HBz.out.ta hk1 hk
            dsimp only at g0
            have hk9' : (k : Int) < 9 := by omega
            clear b22 e6 S6 HBk
            go_wp2_with (fail)
            go_quiet (fail)
            have HBq := Lib.hid (HBz.out.ext (Ext.draws _ nq))
            clear l0 l1 g0 g1
            go_wp2_with (fail)
            go_roundw
            case rel => first | exact ⟨k + 1, by go_num, by omega, by omega, HBq.out⟩ | ((repeat apply Exists.intro); exact ⟨⟨k + 1, by go_num, by omega, by omega, HBq.out⟩, rfl⟩)
            case measure => simp [intOf]; omega
          · have hk8 : ¬ (k : Int) ≤ 8 := by omega
            have HE := Lib.hid hBk.b.ex
            clear hBk
            go_wp2_with (fail)
            go_ret
            exact ⟨rfl, HE.out⟩

end Go.Proofs.Ytojdhnecafkibaa.Law

/- LawRead:
  Arguments that are ints and slices of triples of ints, opened; and the last step of a statement whose call returns true and leaves all that was there as it was. Condition: they are readable, as a statement's arguments are.
-/
set_option maxRecDepth 100000
namespace Go.Proofs.Ytojdhnecafkibaa.Law
open Go.ChangeShapes Go.WideShapes Go.ChangeAt Go.RowKit Go.Joins Go.Deep
open Go.Proofs.Ytojdhnecafkibaa.Aut (Ext I64 U64 add_is)

theorem i64_of {x : Int} (h : (Lit.int .i64 x).wf = true) : I64 x := by have := bounds_i64 h; unfold I64; omega
theorem u64_of {x : Int} (h : (Lit.int .u64 x).wf = true) : U64 x := by have := bounds_u64 h; unfold U64; omega

theorem list2 {α : Type} {l : List α} (h : l.length = 2) : ∃ a b, l = [a, b] := by
  match l, h with
  | [a, b], _ => exact ⟨a, b, rfl⟩
theorem list3 {α : Type} {l : List α} (h : l.length = 3) : ∃ a b c, l = [a, b, c] := by
  match l, h with
  | [a, b, c], _ => exact ⟨a, b, c, rfl⟩

section
variable {H : Type} {enc : TypeId × Value → H} {W : World} {base : Nat} {spare : Nat → Bool} {held : Bool} {fuel : Nat}

/-- Three ints' cells. -/
theorem trip_cells {cs : List Value} {x : DataW H × List MemPlace} (h : DataW.trod enc Try.prog W base spare held fuel 37 cs = some x) :
    ∃ a b c : Int, cs = [.int .i64 a, .int .i64 b, .int .i64 c] ∧ I64 a ∧ I64 b ∧ I64 c := by
  obtain ⟨ys, m, _, _, hlen, hys, hg⟩ := DataW.trod_array Try.underlying37 h
  have hl : cs.length = 3 := hlen.trans (by kernel_rfl)
  obtain ⟨c0, c1, c2, rfl⟩ := list3 hl
  have k2 : Try.prog.cellsOf 3 = 1 := by kernel_rfl
  have i0 := hg 0 (by omega)
  have i1 := hg 1 (by omega)
  have i2 := hg 2 (by omega)
  simp [k2, hys] at i0 i1 i2
  obtain ⟨a, ea, _, wa⟩ := DataW.trod_int Try.underlying3 i0
  obtain ⟨b, eb, _, wb⟩ := DataW.trod_int Try.underlying3 i1
  obtain ⟨c, ec, _, wc⟩ := DataW.trod_int Try.underlying3 i2
  cases ea; cases eb; cases ec
  exact ⟨a, b, c, rfl, i64_of wa, i64_of wb, i64_of wc⟩
end

theorem addr_none {W : World} {a : Addr} (h0 : ∃ u, W.cell? a = some u) : a = ⟨a.block, a.off, none⟩ := by
  have hs : a.spot = none := by
    obtain ⟨u, hu⟩ := h0
    unfold World.cell? at hu
    split at hu
    · split at hu
      · cases hu
      · rename_i hns
        simpa using hns
    · cases hu
  obtain ⟨b, o, sp⟩ := a
  simp only at hs
  subst hs
  rfl

/-- A slice, opened: each element's cells. -/
theorem open_any {H : Type} {enc : TypeId × Value → H} {W : World} {base : Nat} {v : Value} {d : DataW H} {p : List MemPlace} {t e : TypeId} {k : Nat} {Q : List Value → Prop} (ht : Try.prog.underlying t = some (.slice e)) (hk : Try.prog.cellsOf e = k) (hk0 : 0 < k)
    (hQ : ∀ {spare : Nat → Bool} {base : Nat} {held : Bool} {fuel : Nat} {cs : List Value} {x : DataW H × List MemPlace}, DataW.trod enc Try.prog W base spare held fuel e cs = some x → Q cs)
    (hv : Value.okWide Try.prog W .any base t v) (h : DataW.Trod enc Try.prog W 0 (fun _ => true) true t v d p) :
    ∃ (sl : Option Addr) (n c : Nat), v = .slice sl n c ∧ n ≤ c ∧ c ≤ maxLen ∧ ∀ i, i < n → ∃ b o, sl = some ⟨b, o, none⟩ ∧ ∃ cs, Q cs ∧ ∀ j u, cs[j]? = some u → W.cell? ⟨b, o + i * k + j, none⟩ = some u := by
  obtain ⟨a, n, c, rfl⟩ := okWide_slice ht hv
  obtain ⟨fuel, hf⟩ := h
  rcases open_slice ht hf with ⟨hcs, _⟩ | ⟨a', len, cap, m, n', D, Pl, hcs, _, hl, hcap, hm, _, hel⟩
  · simp [Value.cells] at hcs
    exact ⟨a, n, c, rfl, by omega, by rw [hcs.2.2]; exact Nat.zero_le _, fun i hi => by omega⟩
  · simp [Value.cells] at hcs
    obtain ⟨rfl, rfl, rfl⟩ := hcs
    simp at hm
    have key : ∀ i, i < n → ∃ cs, Q cs ∧ cs.length = k ∧ ∀ j u, cs[j]? = some u → W.cell? (a'.add (i * k + j)) = some u := by
      intro i hi
      obtain ⟨cs', h1, h2⟩ := hel i (by omega)
      rw [hk] at h1
      obtain ⟨_, hlen, hc⟩ := World.cells?_some h1
      refine ⟨cs', hQ h2, hlen, fun j u hu => ?_⟩
      obtain ⟨hjl, _⟩ := List.getElem?_eq_some_iff.1 hu
      have h3 := hc j (by omega)
      rw [hu] at h3
      rw [show a'.add (i * k + j) = (a'.add (i * k)).add j by
        unfold Addr.add
        by_cases h1 : i * k = 0 <;> by_cases h2 : j = 0 <;> simp [h1, h2, Nat.add_assoc]]
      exact h3
    refine ⟨some a', n, c, rfl, hl, hcap, fun i hi => ?_⟩
    obtain ⟨c0, _, hl0, h0⟩ := key 0 (by omega)
    have ha : a' = ⟨a'.block, a'.off, none⟩ := addr_none ⟨c0[0]'(by omega), by
      have := h0 0 _ (List.getElem?_eq_getElem (by omega))
      simpa [Addr.add] using this⟩
    obtain ⟨cs, hq, _, hc⟩ := key i hi
    refine ⟨a'.block, a'.off, congrArg some ha, cs, hq, fun j u hu => ?_⟩
    have h3 := hc j u hu
    rw [ha, add_is] at h3
    rw [Nat.add_assoc]; exact h3

/-- Triples, opened. -/
theorem open_ts {H : Type} {enc : TypeId × Value → H} {W : World} {base : Nat} {v : Value} {d : DataW H} {p : List MemPlace} (hv : Value.okWide Try.prog W .any base 22 v) (h : DataW.Trod enc Try.prog W 0 (fun _ => true) true 22 v d p) :
    ∃ (sl : Option Addr) (n c : Nat), v = .slice sl n c ∧ TS W sl n := by
  obtain ⟨sl, n, c, rfl, h1, h2, h3⟩ := open_any (k := 3) (Q := fun cs => ∃ a b c : Int, cs = [.int .i64 a, .int .i64 b, .int .i64 c] ∧ I64 a ∧ I64 b ∧ I64 c) Try.underlying22 (by kernel_rfl) (by decide) trip_cells hv h
  unfold maxLen at h2
  refine ⟨sl, n, c, rfl, by omega, fun j hj => ?_⟩
  obtain ⟨b, o, e, cs, ⟨x, y, z, rfl, hx, hy, hz⟩, hc⟩ := h3 j hj
  exact ⟨x, y, z, hx, hy, hz, b, o, e, by simpa using hc 0 _ rfl, by simpa using hc 1 _ rfl, by simpa using hc 2 _ rfl⟩

/-- A list out of what there is at each place. -/
theorem list_of {α : Type} (F : Nat → α → Prop) : ∀ n : Nat, (∀ i, i < n → ∃ x, F i x) → ∃ xs : List α, xs.length = n ∧ ∀ (j : Nat) (x : α), xs[j]? = some x → F j x
  | 0, _ => ⟨[], rfl, fun j x h => by simp at h⟩
  | n + 1, h => by
    obtain ⟨xs, hl, hx⟩ := list_of F n (fun i hi => h i (by omega))
    obtain ⟨x, hn⟩ := h n (by omega)
    refine ⟨xs ++ [x], by simp [hl], fun j y hj => ?_⟩
    rw [List.getElem?_append] at hj
    split at hj
    · exact hx j y hj
    · rename_i hlt
      have : j - xs.length = 0 := by
        have := (List.getElem?_eq_some_iff.1 hj).1; simp at this; omega
      rw [this] at hj
      simp at hj
      subst hj
      rw [show j = n by omega]; exact hn

theorem laidOut : laidOutB Try.prog = true := by kernel_rfl

theorem all_read {H : Type} {enc : TypeId × Value → H} {W W' : World} (hb : Below W.heap.size W W') : ∀ {ts : List TypeId} {vs : List Value} {ds : List (DataW H)} {ps : List MemPlace},
    (∀ t ∈ ts, Try.prog.readableRec t = true ∧ t < Try.prog.types.size) → (∀ x ∈ ps, x.block < W.heap.size) → DataW.TrodAll enc Try.prog W 0 (fun _ => true) true ts vs ds ps →
    DataW.TrodAll enc Try.prog W' 0 (fun b => decide (b < W.heap.size)) true ts vs ds ps
  | [], [], [], _, _, _, h => h
  | t :: _, _ :: _, _ :: _, _, ht, hl, ⟨p, q, h1, h2, e⟩ =>
    ⟨p, q, Below.trod laidOut (ht t (by simp)).1 (ht t (by simp)).2 h1 hb (fun x hx => hl x (by rw [e]; exact List.mem_append_left _ hx)),
      all_read hb (fun u hu => ht u (by simp [hu])) (fun x hx => hl x (by rw [e]; exact List.mem_append_right _ hx)) h2, e⟩

/-- What a statement asks, behind a call that returned true. -/
theorem told {H : Type} {enc : TypeId × Value → H} {f : Func} {s : ChangeSpec} {W W' : World} {args : Array Value} {ds gs : List (DataW H)} {before : List MemPlace}
    (hW : DataW.Whole enc Try.prog f.params.toList s.vars false W args.toList ds gs before) (hv : s.vars = []) (hf : s.fn H ds = { results := [.lit (.bool true)], args := ds }) (hr : f.resultTypes = #[4])
    (hp : (f.params.toList.all fun t => Try.prog.readableRec t && decide (t < Try.prog.types.size)) = true) (hg : Ext W W') : s.post enc Try.prog f false true false false W args (.bool true) W' := by
  have hlt : ∀ p ∈ before, p.block < W.heap.size := fun p hp => hW.lt p hp
  have hW' := hW
  obtain ⟨p, q, hA, hV, e, _, _⟩ := hW
  rw [hv] at hV
  obtain ⟨rfl, rfl⟩ := trodVars_none hV
  rw [List.append_nil] at e
  subst e
  refine ⟨ds, [], before, [], before, [], hW', ?_, ?_, ?_, Below.frame hg _, fun h => by cases h⟩
  · rw [List.append_nil, hf, hr]
    exact trodAll_cons_mk (shut_bool Try.underlying4 _) trodAll_mk0
  · rw [List.append_nil, hf]
    refine all_read hg (fun t ht => ?_) hlt hA
    have := List.all_eq_true.1 hp t ht
    simpa using this
  · rw [List.append_nil, hf, hv]
    rfl

theorem own : ownKnob Try.prog.godebug = none := by kernel_rfl

end Go.Proofs.Ytojdhnecafkibaa.Law

