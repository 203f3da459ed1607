/-
  The law DiffThen, walked: it returns true in whatever world that holds the raw numbers, for ints.
-/
import Derived.Test.YtdofplmoiljkjaaBack
namespace Go.Proofs.Ytdofplmoiljkjaa
open Go.RowKit (Below intOf)

theorem words_int (sl : Option Addr) (m c : Nat) (z : Int) (n : Nat) (w : World) (hz : RowKit.Hid (z = n)) (hI : IS w sl m) (hn : n ≤ 1048576) :
    Calls Try.prog 9 #[.slice sl m c, .int .i64 z] w fun e w' => ∃ g xs, e = .returned (.slice (some ⟨g, 0, none⟩) n n) ∧ WS w' (some ⟨g, 0, none⟩) n n xs ∧ Ext w w' := by
  have := hz.out
  subst this
  exact words_any sl m c n w hI hn
theorem writes_int (sl : Option Addr) (m c : Nat) (z : Int) (n : Nat) (base : Int) (w : World) (hz : RowKit.Hid (z = n)) (hP : PS w sl m) (hn : n ≤ 1048576) (g0 : 0 ≤ base) (g1 : base ≤ 1000) :
    Calls Try.prog 10 #[.slice sl m c, .int .i64 base, .int .i64 z] w fun e w' => ∃ so k co ys, e = .returned (.slice so k co) ∧ RS w' so k co ys ∧ k ≤ 20 ∧ (∀ y ∈ ys, base ≤ y.1 ∧ y.1 < base + n) ∧ Ext w w' := by
  have := hz.out
  subst this
  exact writes_any sl m c n base w hP hn g0 g1

theorem rises_at {t : List Wr} (h : t.Pairwise (fun x y => x.1 < y.1)) {j : Nat} {p x p' x' : Int} (h1 : t[j]? = some (p, x)) (h2 : t[j + 1]? = some (p', x')) : p < p' := by
  obtain ⟨l1, e1⟩ := List.getElem?_eq_some_iff.1 h1
  obtain ⟨l2, e2⟩ := List.getElem?_eq_some_iff.1 h2
  have := List.pairwise_iff_getElem.1 h j (j + 1) l1 l2 (by omega)
  rw [e1, e2] at this; exact this

set_option maxRecDepth 100000 in
set_option maxHeartbeats 8000000 in
theorem then_walk (s1 s2 s3 : Option Addr) (n1 c1 n2 c2 n3 c3 : Nat) (many base : Int) (w : World) (h1 : IS w s1 n1) (h2 : PS w s2 n2) (h3 : PS w s3 n3) (i1 : I64 many) (i2 : I64 base) :
    Calls Try.prog 5 #[.slice s1 n1 c1, .int .i64 many, .int .i64 base, .slice s2 n2 c2, .slice s3 n3 c3] w fun e w' => e = .returned (.bool true) ∧ Ext w w' := by
  obtain ⟨n0, en, ln⟩ := nat_of (c := many) (n := 30) (by omega)
  obtain ⟨k, ek, lk⟩ := nat_of (c := base) (n := 1000) (by omega)
  have hn : RowKit.Hid (1 + (n0 : Int) = ((1 + n0 : Nat) : Int)) := Lib.hid (by omega)
  go_enter Try.func5, Try.ntmps5
  go_wp2_with (fail)
  refine (awake_any w).mono ?_
  rintro e w1 ⟨rfl, hE⟩
  replace h1 := h1.ext hE
  replace h2 := h2.ext hE
  replace h3 := h3.ext hE
  go_wp2_with (fail)
  refine (pick_is _ 30 n0 _ en i1 (by omega) (by omega)).mono ?_
  rintro e w' ⟨rfl, rfl⟩
  go_wp2_with (fail)
  refine (words_int _ _ _ _ _ _ hn h1 (by omega)).mono ?_
  obtain ⟨n, en2⟩ : ∃ n, RowKit.Hid (1 + n0 = n) := ⟨_, Lib.hid rfl⟩
  rw [en2.out]
  have hn2 : RowKit.Hid (1 + (n0 : Int) = (n : Int)) := Lib.hid (by have := en2.out; omega)
  have hn3 : n ≤ 30 ∧ 0 < n := by have := en2.out; omega
  have hn4 : (n : Int) = 1 + (n0 : Int) := by have := hn2.out; omega
  have Hn4 := Lib.hid hn4
  clear hn4
  rintro e w2 ⟨ga, a, rfl, hA, hE1⟩
  replace h2 := h2.ext hE1
  replace h3 := h3.ext hE1
  replace hE := hE.trans hE1
  clear hE1 h1 hn
  go_wp2_with (fail)
  refine (pick_is _ 1000 k _ ek i2 (by omega) (by omega)).mono ?_
  rintro e w' ⟨rfl, rfl⟩
  go_wp2_with (fail)
  refine (writes_int _ _ _ _ n k _ hn2 h2 (by omega) (by omega) (by omega)).mono ?_
  rintro e w3 ⟨sl, ml, cl, l, rfl, hL, l20, hlb, hE1⟩
  have HLB := Lib.hid hlb
  replace hA := hA.ext hE1
  replace h3 := h3.ext hE1
  replace hE := hE.trans hE1
  clear hE1 h2 hlb
  go_wp2_with (fail)
  refine (writes_int _ _ _ _ n k _ hn2 h3 (by omega) (by omega) (by omega)).mono ?_
  rintro e w4 ⟨sm, mm, cm, m, rfl, hM, m20, hmb, hE1⟩
  have HMB := Lib.hid hmb
  replace hA := hA.ext hE1
  replace hL := hL.ext hE1
  replace hE := hE.trans hE1
  clear hE1 h3 hmb
  go_wp2_with (fail)
  refine (then_any _ _ ml mm cl cm l m _ hL hM (by omega)).mono ?_
  rintro e w5 ⟨st, q, ct, t, rfl, hT, hI, hE1⟩
  replace hA := hA.ext hE1
  replace hL := hL.ext hE1
  replace hM := hM.ext hE1
  replace hE := hE.trans hE1
  clear hE1
  have hal := Lib.hid hA.len
  obtain ⟨b, hb⟩ := patch_some (base := (k : Int)) (a := a) (l := l) (by rw [hal.out]; exact HLB.out)
  obtain ⟨c, hc⟩ := patch_some (base := (k : Int)) (a := b) (l := m) (by rw [patch_len hb, hal.out]; exact HMB.out)
  have hall : ∀ y ∈ l ++ m, (k : Int) ≤ y.1 ∧ y.1 < k + n := fun y hy => (List.mem_append.1 hy).elim (HLB.out y) (HMB.out y)
  have hd := patch_then hb hc (by rw [hal.out]; exact hall) hI
  have hql : q ≤ n := by
    have := rising_len hI.1 (then_bounds hI hall)
    rw [hT.len] at this; exact this
  have Hb := Lib.hid hb
  have Hc := Lib.hid hc
  have Hd := Lib.hid hd
  have HI := Lib.hid hI
  clear hb hc hd hI hall
  go_wp2_with (fail)
  refine (patch_yes _ _ n n ml cl a b l k _ hA hL (by omega) (by omega) Hb.out).mono ?_
  rintro e w6 ⟨sb, cb, rfl, hB, hE1⟩
  replace hA := hA.ext hE1
  replace hM := hM.ext hE1
  replace hT := hT.ext hE1
  replace hE := hE.trans hE1
  clear hE1 hL
  go_wp2_with (fail)
  refine (patch_yes _ _ n cb mm cm b c m k _ hB hM (by omega) (by omega) Hc.out).mono ?_
  rintro e w7 ⟨sc, cc, rfl, hC, hE1⟩
  replace hA := hA.ext hE1
  replace hT := hT.ext hE1
  replace hE := hE.trans hE1
  clear hE1 hM hB
  go_wp2_with (fail)
  refine (patch_yes _ _ n n q ct a c t k _ hA hT (by omega) (by omega) Hd.out).mono ?_
  rintro e w8 ⟨sd, cd, rfl, hD, hE1⟩
  replace hT := hT.ext hE1
  replace hC := hC.ext hE1
  replace hE := hE.trans hE1
  clear hE1 hA
  go_wp2_with (fail)
  go_loopw [24] (fun i wr => ∃ j : Nat, j ≤ n ∧ i = .int .i64 ((j : Int) + 1) ∧ RS wr st q ct t ∧ WS wr sc n cc c ∧ WS wr sd n cd c ∧ Ext w wr) (fun i _ => 60 - (intOf i).toNat)
  case atStart => exact ⟨0, by omega, rfl, hT, hC, hD, hE⟩
  case round =>
    clear hT hC hD hE
    obtain ⟨j, hj, rfl, hT, hC, hD, hE⟩ := hrel
    by_cases hlt : j + 1 < q
    · obtain ⟨p, x, hx, ⟨p0, p1⟩, _, b1, o1, rfl, e1, _⟩ := hT.get (k := j) (by omega)
      obtain ⟨p', x', hx', ⟨p0', p1'⟩, _, b2, o2, e', e2, _⟩ := hT.get (k := j + 1) hlt
      cases e'
      have hpp := rises_at HI.out.1 hx hx'
      have hlt' : (j : Int) + 1 < q := by omega
      have hlt2 : (j : Int) < q := by omega
      have hw1 : IntKind.i64.wrap ((j : Int) + 1 - 1) = j := by rw [IntWalk.i64_in _ (by omega)]; omega
      have hw2 : ((j : Int) + 1).toNat = j + 1 := by omega
      clear hx hx'
      go_wp2_with (fail)
      go_quiet (fail)
      go_wp2_with (fail)
      go_roundw
      case rel => exact ⟨j + 1, by omega, by go_num, hT.ext (Ext.draws wr nq), hC.ext (Ext.draws wr nq), hD.ext (Ext.draws wr nq), hE.drewN nq⟩
      case measure => simp [intOf]; omega
    · have hq1 : (q : Int) ≤ 1 + (n0 : Int) := by have := Hn4.out; omega
      go_wp2_with (fail)
      refine (rsame_is _ _ n n cc cd c c true _ hC hD (Lib.hid (decide_eq_true rfl).symm)).mono ?_
      rintro e w9 ⟨rfl, hE1⟩
      replace hT := hT.ext hE1
      replace hE := hE.trans hE1
      clear hE1 hC hD
      go_wp2_with (fail)
      refine (then_any _ _ q 0 ct 0 t [] _ hT (RS.empty _ _ _ (by omega)) (by omega)).mono ?_
      rintro e w10 ⟨su, qu, cu, u, rfl, hU, hI, hE1⟩
      rw [List.append_nil] at hI
      obtain rfl : t = u := (HI.out.again hI).symm
      replace hT := hT.ext hE1
      replace hE := hE.trans hE1
      clear hE1 hI
      go_wp2_with (fail)
      refine (rwrites_is _ _ qu q cu ct t t true _ hU hT (Lib.hid (decide_eq_true rfl).symm)).mono ?_
      rintro e w11 ⟨rfl, hE1⟩
      replace hT := hT.ext hE1
      replace hE := hE.trans hE1
      clear hE1 hU
      go_wp2_with (fail)
      refine (then_any _ _ 0 q 0 ct [] t _ (RS.empty _ _ _ (by omega)) hT (by omega)).mono ?_
      rintro e w12 ⟨sv, qv, cv, v, rfl, hU, hI, hE1⟩
      rw [List.nil_append] at hI
      obtain rfl : t = v := (HI.out.again hI).symm
      replace hT := hT.ext hE1
      replace hE := hE.trans hE1
      clear hE1 hI
      go_wp2_with (fail)
      refine (rwrites_is _ _ qv q cv ct t t true _ hU hT (Lib.hid (decide_eq_true rfl).symm)).mono ?_
      rintro e w13 ⟨rfl, hE1⟩
      replace hE := hE.trans hE1
      clear hE1 hU
      go_wp2_with (fail)
      go_ret
      exact ⟨rfl, hE⟩

end Go.Proofs.Ytdofplmoiljkjaa
