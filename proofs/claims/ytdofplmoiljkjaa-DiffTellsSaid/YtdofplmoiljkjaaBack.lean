/-
  The law DiffBack, walked: it returns true in whatever world that holds the raw numbers, for ints.
-/
import Derived.Test.YtdofplmoiljkjaaCut
namespace Go.Proofs.Ytdofplmoiljkjaa
open Go.RowKit (Below intOf)

theorem nat_of {c : Int} {n : Int} (h : 1 ≤ n) : ∃ k : Nat, RowKit.Hid (pick c n = k) ∧ (k : Int) < n := by
  have := pick_bd (c := c) h
  exact ⟨(pick c n).toNat, Lib.hid (by omega), by omega⟩
theorem pick_is (c n : Int) (k : Nat) (w : World) (hk : RowKit.Hid (pick c n = k)) (h : I64 c) (g0 : 1 ≤ n) (g1 : n < 9223372036854775808) : Calls Try.prog 8 #[.int .i64 c, .int .i64 n] w fun e w' => e = .returned (.int .i64 k) ∧ w = w' := by
  have h' := pick_any c n w h.1 h.2 g0 g1
  rw [hk.out] at h'; exact h'

set_option maxRecDepth 100000 in
set_option maxHeartbeats 8000000 in
theorem back_walk (s1 s2 : Option Addr) (n1 c1 n2 c2 : Nat) (many base at_ : Int) (w : World) (h1 : IS w s1 n1) (h2 : IS w s2 n2) (i1 : I64 many) (i2 : I64 base) (i3 : I64 at_) :
    Calls Try.prog 4 #[.slice s1 n1 c1, .slice s2 n2 c2, .int .i64 many, .int .i64 base, .int .i64 at_] w fun e w' => e = .returned (.bool true) ∧ Ext w w' := by
  obtain ⟨n, en, ln⟩ := nat_of (c := many) (n := 30) (by omega)
  obtain ⟨k, ek, lk⟩ := nat_of (c := base) (n := 1000) (by omega)
  have hl1 : n1 ≤ 9223372036854775807 := h1.1
  have hl2 : n2 ≤ 9223372036854775807 := h2.1
  go_enter Try.func4, Try.ntmps4
  go_wp2_with (fail)
  refine (awake_any w).mono ?_
  rintro e w1 ⟨rfl, hE⟩
  replace h1 := h1.ext hE
  replace h2 := h2.ext hE
  go_wp2_with (fail)
  refine (pick_is _ 30 n _ en i1 (by omega) (by omega)).mono ?_
  rintro e w' ⟨rfl, rfl⟩
  go_wp2_with (fail)
  refine (words_any _ _ _ n _ h1 (by omega)).mono ?_
  rintro e w2 ⟨ga, a, rfl, hA, hE1⟩
  replace h2 := h2.ext hE1
  replace hE := hE.trans hE1
  clear hE1 h1
  go_wp2_with (fail)
  refine (words_any _ _ _ n _ h2 (by omega)).mono ?_
  rintro e w3 ⟨gb, b, rfl, hB, hE1⟩
  replace hA := hA.ext hE1
  replace hE := hE.trans hE1
  clear hE1 h2
  go_wp2_with (fail)
  refine (pick_is _ 1000 k _ ek i2 (by omega) (by omega)).mono ?_
  rintro e w' ⟨rfl, rfl⟩
  have hal := Lib.hid hA.len
  have hbl := Lib.hid hB.len
  go_wp2_with (fail)
  refine (of_yes _ _ n n n a b k _ hA hB (by omega) (by omega)).mono ?_
  rintro e w4 ⟨sl, m, cm, rfl, hL, hE1⟩
  replace hA := hA.ext hE1
  replace hB := hB.ext hE1
  replace hE := hE.trans hE1
  clear hE1
  have hlen := Lib.hid hL.len
  have hp1 : RowKit.Hid (patchL k a (ofK a b k n) = some b) := Lib.hid (by have h := patch_of (base := (k : Int)) (a := a) (b := b) (by rw [hal.out, hbl.out]); rw [hal.out] at h; exact h)
  have hp2 : RowKit.Hid (patchL k b (ofK a b k n) = some b) := Lib.hid (patch_of_perm (by rw [hal.out, hbl.out]) rfl (fun y => by rw [hal.out]) (fun j _ h => absurd rfl h))
  go_wp2_with (fail)
  refine (patch_yes _ _ n n m cm a b _ k _ hA hL (by omega) (by omega) hp1.out).mono ?_
  rintro e w5 ⟨sc, cc, rfl, hC, hE1⟩
  replace hA := hA.ext hE1
  replace hB := hB.ext hE1
  replace hL := hL.ext hE1
  replace hE := hE.trans hE1
  clear hE1
  go_wp2_with (fail)
  refine (patch_yes _ _ n cc m cm b b _ k _ hC hL (by omega) (by omega) hp2.out).mono ?_
  rintro e w6 ⟨sd, cd, rfl, hD, hE1⟩
  replace hA := hA.ext hE1
  replace hB := hB.ext hE1
  replace hL := hL.ext hE1
  replace hC := hC.ext hE1
  replace hE := hE.trans hE1
  clear hE1
  go_wp2_with (fail)
  refine (rsame_is _ _ n n cc n b b true _ hC hB (Lib.hid (decide_eq_true rfl).symm)).mono ?_
  rintro e w7 ⟨rfl, hE1⟩
  replace hA := hA.ext hE1
  replace hB := hB.ext hE1
  replace hL := hL.ext hE1
  replace hD := hD.ext hE1
  replace hE := hE.trans hE1
  clear hE1 hC
  go_wp2_with (fail)
  refine (rsame_is _ _ n n cd n b b true _ hD hB (Lib.hid (decide_eq_true rfl).symm)).mono ?_
  rintro e w8 ⟨rfl, hE1⟩
  replace hA := hA.ext hE1
  replace hB := hB.ext hE1
  replace hL := hL.ext hE1
  replace hE := hE.trans hE1
  clear hE1 hD
  have hml : m ≤ 1048576 := hL.le
  have hmc : m ≤ cm := hL.lc
  have hnil : RowKit.Hid (a = b ↔ m = 0) := Lib.hid (by
    rw [← hlen.out, ofK_len, ← unl_same hal.out hbl.out]
    constructor
    · intro h; rw [h]; rfl
    · intro h; exact List.eq_nil_of_length_eq_zero h)
  by_cases hm : m = 0
  · have hab : RowKit.Hid (a = b) := Lib.hid (hnil.out.2 hm)
    subst hm
    go_wp2_with (fail)
    refine (same_any _ _ n n n n a b true _ hA hB (Lib.hid (decide_eq_true hab.out).symm)).mono ?_
    rintro e w9 ⟨rfl, hE1⟩
    replace hE := hE.trans hE1
    clear hE1
    go_wp2_with (fail)
    go_ret
    exact ⟨rfl, hE⟩
  · have hm0 : 0 < m := by omega
    have hmb : ((m : Int) == 0) = false := by simp; omega
    have hmb2 : (m == 0) = false := by simp; omega
    obtain ⟨i, ei, li⟩ := nat_of (c := at_) (n := m) (by omega)
    have him : i < m := by omega
    go_wp2_with (fail)
    refine (same_any _ _ n n n n a b false _ hA hB (Lib.hid (decide_eq_false (fun e => hm (hnil.out.1 e))).symm)).mono ?_
    rintro e w9 ⟨rfl, hE1⟩
    replace hA := hA.ext hE1
    replace hB := hB.ext hE1
    replace hL := hL.ext hE1
    replace hE := hE.trans hE1
    clear hE1
    go_wp2_with (fail)
    refine (pick_is _ m i _ ei i3 (by omega) (by omega)).mono ?_
    rintro e w' ⟨rfl, rfl⟩
    obtain ⟨h, hp3, hne⟩ := patch_less (a := a) (b := b) (base := (k : Int)) (by rw [hal.out, hbl.out]) (i := i) (by rw [hal.out, hlen.out]; exact him)
    rw [hal.out] at hp3
    have HP := Lib.hid hp3
    have HN := Lib.hid hne
    clear hp3 hne
    obtain ⟨s2, n2', c2', sa, ca, wa, sb, N, cb, wb, q1, q2, ra, rb, hR, hE1⟩ := cut_less hL him
    have Ra := Lib.hid ra
    have Rb := Lib.hid rb
    have q3 : IntKind.i64.wrap ((i : Int) + 1) = (i : Int) + 1 := IntWalk.i64_in _ (by omega)
    clear ra rb
    go_wp2_with (fail)
    go_region_held3 (fun _ => (True ∧ True)) (exact ⟨trivial, trivial⟩)
      (first
        | (refine step_append_run w9.drew (by rfl) (.const (.slice none 0 0)) (.tmp 99) 23 23 (by rfl) (.slice none 0 0) (.slice sl i cm) (by rfl) (by rfl) _ _ Ra.out ?_)
        | (refine step_append_run wa (by rfl) (.tmp 100) (.tmp 104) 23 23 (by rfl) (.slice sa i ca) (.slice s2 n2' c2') (by rfl) (by rfl) _ _ Rb.out ?_))
    replace hA := hA.ext hE1
    replace hB := hB.ext hE1
    replace hE := hE.trans hE1
    clear q1 q2 q3 Ra Rb hL hE1
    go_wp2_with (fail)
    refine (patch_yes _ _ n n N cb a h _ k _ hA hR (by omega) (by omega) HP.out).mono ?_
    rintro e w10 ⟨sh, ch, rfl, hH, hE1⟩
    replace hB := hB.ext hE1
    replace hE := hE.trans hE1
    clear hE1 hA hR
    go_wp2_with (fail)
    refine (rsame_is _ _ n n ch n h b false _ hH hB (Lib.hid (decide_eq_false HN.out).symm)).mono ?_
    rintro e w11 ⟨rfl, hE1⟩
    replace hH := hH.ext hE1
    replace hB := hB.ext hE1
    replace hE := hE.trans hE1
    clear hE1
    go_wp2_with (fail)
    refine (same_any _ _ n n ch n h b false _ hH hB (Lib.hid (decide_eq_false HN.out).symm)).mono ?_
    rintro e w12 ⟨rfl, hE1⟩
    replace hE := hE.trans hE1
    clear hE1
    go_wp2_with (fail)
    go_ret
    exact ⟨rfl, hE⟩

end Go.Proofs.Ytdofplmoiljkjaa
