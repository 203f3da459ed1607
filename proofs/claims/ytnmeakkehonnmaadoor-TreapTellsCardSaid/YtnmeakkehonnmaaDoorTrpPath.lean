/-
  What the document's own Path returns. Condition: the keys and the links are there.
-/
import Derived.Test.YtnmeakkehonnmaaDoorTrpFind
namespace Go.Proofs.YtnmeakkehonnmaaDoor.Trp
open Go.RowKit (Below intOf)

def lenOf : Value → Nat
  | .slice _ n _ => n
  | _ => 0
theorem way_zero {l : List Int} {L : List Pr} {q : Int} {xs : List Int} (h : Way l L q 0 xs) : xs = [] := by
  cases xs with
  | nil => rfl
  | cons x r =>
    obtain ⟨e, i, k, y, e2, _⟩ := h
    omega
theorem way_some {l : List Int} {L : List Pr} {q a : Int} {xs : List Int} (h : Way l L q a xs) (ha : a ≠ 0) : ∃ (i : Nat) (k : Int) (y : Pr) (r : List Int), xs = a :: r ∧ a = ((i + 1 : Nat) : Int) ∧ l[i]? = some k ∧ L[i]? = some y ∧ (q < k → Way l L q y.1 r) ∧ (k < q → Way l L q y.2 r) ∧ (k = q → r = []) := by
  cases xs with
  | nil => exact absurd h ha
  | cons x r =>
    obtain ⟨e, i, k, y, e2, h⟩ := h
    subst e
    exact ⟨i, k, y, r, rfl, e2, h⟩

set_option maxHeartbeats 4000000 in
set_option maxRecDepth 100000 in
theorem rpath_any (s : Option Addr) (n c : Nat) (l : List Int) (r : Int) (sl : Option Addr) (m cl : Nat) (L : List Pr) (q : Int) (w : World) (hW : WS w s n c l) (hL : LS w sl m cl L) :
    Calls Tryd.prog 22 #[.slice s n c, .int .i64 r, .slice sl m cl, .int .u64 q] w fun e w' => ∃ so k co, e = .returned (.slice so k co) ∧ NS w' so k co (pathS l r L q) ∧ Ext w w' := by
  have hR := rright_any s n c l r sl m cl L w hW hL
  have hn := hW.le
  have HW := Lib.hid hW
  have HL := Lib.hid hL
  clear hW hL
  by_cases hr : rightS l r L = true
  · have hp : RowKit.Hid (pathS l r L q = path l 0 q) := Lib.hid (by unfold pathS; rw [if_pos hr])
    have hw0 : RowKit.Hid (Way l L q r (path l 0 q)) := Lib.hid (by
      obtain ⟨_, _, e1, e2⟩ := right_of.1 hr
      rw [← e1, ← e2]; exact way_of l q)
    have hlen : RowKit.Hid (l.length ≤ 256) := Lib.hid (by have := (right_of.1 hr).1; omega)
    have hpb := Lib.hid (path_bd q l.length l 0 rfl)
    rw [hr] at hR
    clear hr
    go_enter Tryd.func22, Tryd.ntmps22
    go_wp2_with (fail)
    refine hR.mono ?_
    rintro e w1 ⟨rfl, hE1⟩
    have HW1 := Lib.hid (HW.out.ext hE1)
    have HL1 := Lib.hid (HL.out.ext hE1)
    have HE := Lib.hid hE1
    clear HW HL hE1 hR
    go_wp2_with (fail)
    go_loopw [9, 10] (fun ov av wr => ∃ (a : Int) (k co : Nat) (so : Option Addr) (pre rest : List Int), av = .int .i64 a ∧ ov = .slice so k co ∧ wr.ownsRow w1.heap.size 3 1 (.slice so k co) k (flatNS pre) ∧ pre.length = k ∧ RowKit.Hid (pre ++ rest = path l 0 q ∧ Way l L q a rest) ∧ Ext w1 wr ∧ k ≤ 256) (fun ov _ _ => 257 - lenOf ov)
    case atStart => exact ⟨r, 0, 0, none, [], path l 0 q, rfl, rfl, World.ownsRow_nil _ _ _ _, rfl, Lib.hid ⟨rfl, hw0.out⟩, Ext.refl w1, by omega⟩
    case round =>
      obtain ⟨a, k, co, so, pre, rest, rfl, rfl, hown, hk, hP, hE2, hk6⟩ := hrel
      by_cases ha : a = 0
      · subst ha
        go_wp2_with (fail)
        go_ret
        have e := way_zero hP.out.2
        subst e
        have e2 : pre = path l 0 q := by have := hP.out.1; simpa using this
        rw [hp.out, ← e2]
        refine ⟨so, k, co, rfl, NS.of_own hown hk (by omega) (fun y hy => ?_), HE.out.trans hE2⟩
        rw [e2] at hy
        have h3 := hpb.out.2 y hy
        have h4 := hlen.out
        unfold I64; omega
      · obtain ⟨i, k', y, rest', rfl, rfl, hki, hLi, hA, hB, hC⟩ := way_some hP.out.2 ha
        have hP1 : RowKit.Hid (pre ++ ((i + 1 : Nat) : Int) :: rest' = path l 0 q) := Lib.hid hP.out.1
        have hin : i < n := by rw [← HW1.out.len]; exact (List.getElem?_eq_some_iff.1 hki).1
        have him : i < m := by rw [← HL1.out.len]; exact (List.getElem?_eq_some_iff.1 hLi).1
        have hk7 : k + 1 ≤ 256 := by
          have h1 := congrArg List.length hP1.out
          rw [List.length_append, List.length_cons] at h1
          have h2 := hpb.out.1
          have h3 := hlen.out
          omega
        obtain ⟨x, hx, ux, b, o, rfl, cx⟩ := HW1.out.get (k := i) hin
        obtain ⟨⟨y1, y2⟩, hy, uy, b2, o2, rfl, cy1, cy2⟩ := HL1.out.get (k := i) him
        rw [hki] at hx
        rw [hLi] at hy
        cases hx
        cases hy
        have hb1 : (((i + 1 : Nat) : Int) != 0) = true := by simp; omega
        have hw1 : IntKind.i64.wrap ((i : Int) + 1 - 1) = i := by have := hpb; rw [IntWalk.i64_in _ (by omega)]; omega
        have hw2 : IntKind.i64.wrap (i : Int) = i := IntWalk.i64_in _ (by omega)
        have hi1 : (i : Int) < n := by omega
        have hi2 : (i : Int) < m := by omega
        have hlit := NS.lit wr ((i + 1 : Nat) : Int) (by unfold I64; omega)
        obtain ⟨so', co', w2, R1, o2, g1⟩ := appNS (hown.alloc _) hlit (k + 1) rfl (by omega) (by have := hE2.size; simp; omega)
        have x1 : Ext w1 w2 := Ext.grown (Ext.alloc hE2 _) g1 (own_ge hown)
        clear hP hki hLi ha
        have d1 := x1.cell cx
        have d2 := x1.cell cy1
        have d3 := x1.cell cy2
        rcases Int.lt_trichotomy q k' with hlt | hlt | hlt
        · have hq1 : decide (q < k') = true := decide_eq_true hlt
          have hN : RowKit.Hid ((pre ++ [((i + 1 : Nat) : Int)]) ++ rest' = path l 0 q ∧ Way l L q y1 rest') := Lib.hid ⟨by rw [← hP1.out]; simp, hA hlt⟩
          clear hA hB hC hlt
          go_wp2_with (at_builtin; refine Lib.wpList_append_run _ rfl _ _ _ _ rfl _ _ rfl rfl _ _ R1.out ?_)
          go_roundw
          case rel => exact ⟨y1, k + 1, co', so', _, rest', rfl, rfl, o2, by simp [hk], hN, x1, by omega⟩
          case measure => simp [lenOf]; omega
        · have hq1 : decide (q < k') = false := decide_eq_false (by omega)
          have hq2 : decide (k' < q) = false := decide_eq_false (by omega)
          have hN : RowKit.Hid ((pre ++ [((i + 1 : Nat) : Int)]) ++ rest' = path l 0 q ∧ Way l L q 0 rest') := Lib.hid ⟨by rw [← hP1.out]; simp, by rw [hC hlt.symm]; rfl⟩
          clear hA hB hC hlt
          go_wp2_with (at_builtin; refine Lib.wpList_append_run _ rfl _ _ _ _ rfl _ _ rfl rfl _ _ R1.out ?_)
          go_roundw
          case rel => exact ⟨0, k + 1, co', so', _, rest', rfl, rfl, o2, by simp [hk], hN, x1, by omega⟩
          case measure => simp [lenOf]; omega
        · have hq1 : decide (q < k') = false := decide_eq_false (by omega)
          have hq2 : decide (k' < q) = true := decide_eq_true hlt
          have hN : RowKit.Hid ((pre ++ [((i + 1 : Nat) : Int)]) ++ rest' = path l 0 q ∧ Way l L q y2 rest') := Lib.hid ⟨by rw [← hP1.out]; simp, hB hlt⟩
          clear hA hB hC hlt
          go_wp2_with (at_builtin; refine Lib.wpList_append_run _ rfl _ _ _ _ rfl _ _ rfl rfl _ _ R1.out ?_)
          go_roundw
          case rel => exact ⟨y2, k + 1, co', so', _, rest', rfl, rfl, o2, by simp [hk], hN, x1, by omega⟩
          case measure => simp [lenOf]; omega
  · have hr' : rightS l r L = false := by simpa using hr
    have hp : RowKit.Hid (pathS l r L q = []) := Lib.hid (by unfold pathS; rw [if_neg hr])
    rw [hr'] at hR
    clear hr hr'
    go_enter Tryd.func22, Tryd.ntmps22
    go_wp2_with (fail)
    refine hR.mono ?_
    rintro e w1 ⟨rfl, hE1⟩
    go_wp2_with (fail)
    go_ret
    rw [hp.out]
    exact ⟨none, 0, 0, rfl, NS.empty _ _ _ (by omega), hE1⟩

end Go.Proofs.YtnmeakkehonnmaaDoor.Trp
