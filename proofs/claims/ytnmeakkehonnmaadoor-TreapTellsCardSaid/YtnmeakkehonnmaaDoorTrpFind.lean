/-
  What the document's own Find, Next and Path return. Condition: the keys and the links are there.
-/
import Derived.Test.YtnmeakkehonnmaaDoorTrpRef
namespace Go.Proofs.YtnmeakkehonnmaaDoor.Trp
open Go.RowKit (Below intOf)

theorem path_bd (q : Int) : ∀ (n : Nat) (s : List Int) (off : Nat), s.length = n → (path s off q).length ≤ n ∧ ∀ x ∈ path s off q, (off : Int) + 1 ≤ x ∧ x ≤ off + n := by
  intro n
  induction n using Nat.strongRecOn with
  | ind n ih =>
    intro s off hs
    by_cases h : s = []
    · subst h; rw [path_nil]; exact ⟨by simp, fun x hx => absurd hx (List.not_mem_nil)⟩
    · have ht := top_is s h
      obtain ⟨m, hm, _⟩ := id ht
      have hlt := ht.lt
      have e1 : (s.take (top s)).length = top s := by simp; omega
      have e2 : (s.drop (top s + 1)).length = n - (top s + 1) := by simp; omega
      obtain ⟨a1, a2⟩ := ih (top s) (by omega) (s.take (top s)) off e1
      obtain ⟨b1, b2⟩ := ih (n - (top s + 1)) (by omega) (s.drop (top s + 1)) (off + top s + 1) e2
      rw [path_at ht hm]
      split
      · refine ⟨by rw [List.length_cons]; omega, fun x hx => ?_⟩
        rcases List.mem_cons.1 hx with rfl | hx
        · omega
        · have := a2 x hx; omega
      · split
        · refine ⟨by rw [List.length_cons]; omega, fun x hx => ?_⟩
          rcases List.mem_cons.1 hx with rfl | hx
          · omega
          · have := b2 x hx; omega
        · refine ⟨by simp; omega, fun x hx => ?_⟩
          rcases List.mem_cons.1 hx with rfl | hx
          · omega
          · cases hx

def numP (f : Int → Bool) (l : List Int) : Int × Bool := ((num f l : Nat), decide (num f l ≠ 0))

set_option maxHeartbeats 2000000 in
theorem rfind_any (s : Option Addr) (n c : Nat) (l : List Int) (r : Int) (sl : Option Addr) (m cl : Nat) (L : List Pr) (q : Int) (w : World) (hW : WS w s n c l) (hL : LS w sl m cl L) :
    Calls Tryd.prog 17 #[.slice s n c, .int .i64 r, .slice sl m cl, .int .u64 q] w fun e w' => e = .returned (.tuple #[.int .i64 (findS l r L q).1, .bool (findS l r L q).2]) ∧ Ext w w' := by
  have hR := rright_any s n c l r sl m cl L w hW hL
  have hn := hW.le
  have HW := Lib.hid hW
  clear hW hL
  by_cases hr : rightS l r L = true
  · have hp : RowKit.Hid (findS l r L q = numP (fun x => x == q) l) := Lib.hid (by unfold findS; rw [if_pos hr]; rfl)
    rw [hr] at hR
    clear hr
    go_enter Tryd.func17, Tryd.ntmps17
    go_wp2_with (fail)
    refine hR.mono ?_
    rintro e w1 ⟨rfl, hE1⟩
    have HW1 := Lib.hid (HW.out.ext hE1)
    have HE := Lib.hid hE1
    clear HW hE1 hR
    go_wp2_with (fail)
    go_loopw [10] (fun iv wr => ∃ (i d : Nat), i ≤ n ∧ iv = .int .i64 i ∧ wr = w1.drewN d ∧ RowKit.Hid (∀ (j : Nat) y, j < i → l[j]? = some y → (fun x => x == q) y = false)) (fun i _ => n - (intOf i).toNat)
    case atStart => exact ⟨0, 0, by omega, rfl, rfl, Lib.hid (fun j y hj => by omega)⟩
    case round =>
      obtain ⟨i, d, h1, rfl, rfl, hP⟩ := hrel
      by_cases hi : i < n
      · have hin : (i : Int) < n := by omega
        obtain ⟨x, hx, ux, b, o, rfl, cx⟩ := HW1.out.get (k := i) hi
        have HX := Lib.hid hx
        clear hx
        by_cases hf : (fun x => x == q) x = true
        · have hz : RowKit.Hid (num (fun x => x == q) l = i + 1) := Lib.hid (num_hit hP.out HX.out hf)
          have hb : x = q := by simpa using hf
          subst hb
          clear hf
          go_wp2_with (fail)
          go_ret2
          rw [hp.out]
          unfold numP
          rw [hz.out]
          exact ⟨by simp, HE.out.drewN d⟩
        · have hf' : (fun x => x == q) x = false := by simpa using hf
          have hN : RowKit.Hid (∀ (j : Nat) y, j < i + 1 → l[j]? = some y → (fun x => x == q) y = false) := Lib.hid (fun j y hj hy => by
            by_cases e : j = i
            · subst e; rw [HX.out] at hy; cases hy; exact hf'
            · exact hP.out j y (by omega) hy)
          have hb : (x == q) = false := by simpa using hf
          clear hf hf'
          go_wp2_with (fail)
          go_roundw
          case rel => exact ⟨i + 1, d, by omega, by go_num, rfl, hN⟩
          case measure => simp [intOf]; omega
      · obtain rfl : i = n := by omega
        have hz : RowKit.Hid (num (fun x => x == q) l = 0) := Lib.hid (num_none (fun j y hy => hP.out j y (by have := (List.getElem?_eq_some_iff.1 hy).1; rw [HW1.out.len] at this; exact this) hy))
        go_wp2_with (fail)
        go_ret2
        rw [hp.out]
        unfold numP
        rw [hz.out]
        exact ⟨rfl, HE.out.drewN d⟩
  · have hr' : rightS l r L = false := by simpa using hr
    have hp : RowKit.Hid (findS l r L q = (0, false)) := Lib.hid (by unfold findS; rw [if_neg hr])
    rw [hr'] at hR
    clear hr hr'
    go_enter Tryd.func17, Tryd.ntmps17
    go_wp2_with (fail)
    refine hR.mono ?_
    rintro e w1 ⟨rfl, hE1⟩
    go_wp2_with (fail)
    go_ret2
    rw [hp.out]
    exact ⟨rfl, hE1⟩

set_option maxHeartbeats 2000000 in
theorem rnext_any (s : Option Addr) (n c : Nat) (l : List Int) (r : Int) (sl : Option Addr) (m cl : Nat) (L : List Pr) (q : Int) (w : World) (hW : WS w s n c l) (hL : LS w sl m cl L) :
    Calls Tryd.prog 19 #[.slice s n c, .int .i64 r, .slice sl m cl, .int .u64 q] w fun e w' => e = .returned (.tuple #[.int .i64 (nextS l r L q).1, .bool (nextS l r L q).2]) ∧ Ext w w' := by
  have hR := rright_any s n c l r sl m cl L w hW hL
  have hn := hW.le
  have HW := Lib.hid hW
  clear hW hL
  by_cases hr : rightS l r L = true
  · have hp : RowKit.Hid (nextS l r L q = numP (fun x => decide (q ≤ x)) l) := Lib.hid (by unfold nextS; rw [if_pos hr]; rfl)
    rw [hr] at hR
    clear hr
    go_enter Tryd.func19, Tryd.ntmps19
    go_wp2_with (fail)
    refine hR.mono ?_
    rintro e w1 ⟨rfl, hE1⟩
    have HW1 := Lib.hid (HW.out.ext hE1)
    have HE := Lib.hid hE1
    clear HW hE1 hR
    go_wp2_with (fail)
    go_loopw [10] (fun iv wr => ∃ (i d : Nat), i ≤ n ∧ iv = .int .i64 i ∧ wr = w1.drewN d ∧ RowKit.Hid (∀ (j : Nat) y, j < i → l[j]? = some y → (fun x => decide (q ≤ x)) y = false)) (fun i _ => n - (intOf i).toNat)
    case atStart => exact ⟨0, 0, by omega, rfl, rfl, Lib.hid (fun j y hj => by omega)⟩
    case round =>
      obtain ⟨i, d, h1, rfl, rfl, hP⟩ := hrel
      by_cases hi : i < n
      · have hin : (i : Int) < n := by omega
        obtain ⟨x, hx, ux, b, o, rfl, cx⟩ := HW1.out.get (k := i) hi
        have HX := Lib.hid hx
        clear hx
        by_cases hf : (fun x => decide (q ≤ x)) x = true
        · have hz : RowKit.Hid (num (fun x => decide (q ≤ x)) l = i + 1) := Lib.hid (num_hit hP.out HX.out hf)
          have hb : q ≤ x := by simpa using hf
          have hdb : decide (q ≤ x) = true := decide_eq_true hb
          clear hf
          go_wp2_with (fail)
          go_ret2
          rw [hp.out]
          unfold numP
          rw [hz.out]
          exact ⟨by simp, HE.out.drewN d⟩
        · have hf' : (fun x => decide (q ≤ x)) x = false := by simpa using hf
          have hN : RowKit.Hid (∀ (j : Nat) y, j < i + 1 → l[j]? = some y → (fun x => decide (q ≤ x)) y = false) := Lib.hid (fun j y hj hy => by
            by_cases e : j = i
            · subst e; rw [HX.out] at hy; cases hy; exact hf'
            · exact hP.out j y (by omega) hy)
          have hb : ¬ q ≤ x := by simpa using hf
          have hdb : decide (q ≤ x) = false := decide_eq_false hb
          clear hf hf'
          go_wp2_with (fail)
          go_roundw
          case rel => exact ⟨i + 1, d, by omega, by go_num, rfl, hN⟩
          case measure => simp [intOf]; omega
      · obtain rfl : i = n := by omega
        have hz : RowKit.Hid (num (fun x => decide (q ≤ x)) l = 0) := Lib.hid (num_none (fun j y hy => hP.out j y (by have := (List.getElem?_eq_some_iff.1 hy).1; rw [HW1.out.len] at this; exact this) hy))
        go_wp2_with (fail)
        go_ret2
        rw [hp.out]
        unfold numP
        rw [hz.out]
        exact ⟨rfl, HE.out.drewN d⟩
  · have hr' : rightS l r L = false := by simpa using hr
    have hp : RowKit.Hid (nextS l r L q = (0, false)) := Lib.hid (by unfold nextS; rw [if_neg hr])
    rw [hr'] at hR
    clear hr hr'
    go_enter Tryd.func19, Tryd.ntmps19
    go_wp2_with (fail)
    refine hR.mono ?_
    rintro e w1 ⟨rfl, hE1⟩
    go_wp2_with (fail)
    go_ret2
    rw [hp.out]
    exact ⟨rfl, hE1⟩

end Go.Proofs.YtnmeakkehonnmaaDoor.Trp
