/-
  The law DiffSame, walked: it returns true in whatever world that holds the raw numbers, for ints.
-/
import Derived.Test.YtdofplmoiljkjaaBack
namespace Go.Proofs.Ytdofplmoiljkjaa
open Go.RowKit (Below intOf)

/-- What stands at a place of the writes between a and b. -/
theorem ofK_at {a b : List Int} {base : Int} {n i : Nat} {p x : Int} (h : (ofK a b base n)[i]? = some (p, x)) : ∃ j : Nat, (unl a b n)[i]? = some j ∧ j < n ∧ p = base + j ∧ x = b[j]?.getD 0 ∧ a[j]?.getD 0 ≠ b[j]?.getD 0 := by
  unfold ofK at h
  rw [List.getElem?_map] at h
  obtain ⟨j, hj, e⟩ := Option.map_eq_some_iff.1 h
  cases e
  have := mem_unl.1 (List.mem_of_getElem? hj)
  exact ⟨j, hj, this.1, rfl, rfl, this.2⟩
theorem zero_of {a : List Int} {n : Nat} (h : a.length = n) : zeroB a = true ↔ a = List.replicate n 0 := by
  constructor
  · intro hz
    unfold zeroB at hz
    rw [List.all_eq_true] at hz
    refine List.eq_replicate_iff.2 ⟨h, fun x hx => ?_⟩
    have := hz x hx; simpa using this
  · rintro rfl
    unfold zeroB; rw [List.all_eq_true]; intro x hx
    have := List.eq_of_mem_replicate hx; simp [this]

set_option maxRecDepth 100000 in
set_option maxHeartbeats 8000000 in
theorem same_walk (s1 s2 : Option Addr) (n1 c1 n2 c2 : Nat) (many base turn : Int) (w : World) (h1 : IS w s1 n1) (h2 : IS w s2 n2) (i1 : I64 many) (i2 : I64 base) (i3 : I64 turn) :
    Calls Try.prog 6 #[.slice s1 n1 c1, .slice s2 n2 c2, .int .i64 many, .int .i64 base, .int .i64 turn] w fun e w' => e = .returned (.bool true) ∧ Ext w w' := by
  obtain ⟨n, en, ln⟩ := nat_of (c := many) (n := 30) (by omega)
  obtain ⟨k, ek, lk⟩ := nat_of (c := base) (n := 1000) (by omega)
  go_enter Try.func6, Try.ntmps6
  go_wp2_with (fail)
  refine (awake_any w).mono ?_
  rintro e w1 ⟨rfl, hE⟩
  replace h1 := h1.ext hE
  replace h2 := h2.ext hE
  go_wp2_with (fail)
  refine (pick_is _ 30 n _ en i1 (by omega) (by omega)).mono ?_
  rintro e w' ⟨rfl, rfl⟩
  go_wp2_with (fail)
  refine (words_any _ _ _ n _ h1 (by omega)).mono ?_
  rintro e w2 ⟨ga, a, rfl, hA, hE1⟩
  replace h2 := h2.ext hE1
  replace hE := hE.trans hE1
  clear hE1 h1
  go_wp2_with (fail)
  refine (words_any _ _ _ n _ h2 (by omega)).mono ?_
  rintro e w3 ⟨gb, b, rfl, hB, hE1⟩
  replace hA := hA.ext hE1
  replace hE := hE.trans hE1
  clear hE1 h2
  go_wp2_with (fail)
  refine (pick_is _ 1000 k _ ek i2 (by omega) (by omega)).mono ?_
  rintro e w' ⟨rfl, rfl⟩
  have hal := Lib.hid hA.len
  have hbl := Lib.hid hB.len
  go_wp2_with (fail)
  refine (of_yes _ _ n n n a b k _ hA hB (by omega) (by omega)).mono ?_
  rintro e w4 ⟨sl, m, cm, rfl, hL, hE1⟩
  replace hA := hA.ext hE1
  replace hB := hB.ext hE1
  replace hE := hE.trans hE1
  clear hE1
  go_wp2_with (fail)
  refine (of_yes _ _ n n n b a k _ hB hA (by omega) (by omega)).mono ?_
  rintro e w5 ⟨sm, m', cm', rfl, hM, hE1⟩
  replace hA := hA.ext hE1
  replace hB := hB.ext hE1
  replace hL := hL.ext hE1
  replace hE := hE.trans hE1
  clear hE1
  obtain rfl : m = m' := by rw [← hL.len, ← hM.len, ofK_len, ofK_len, unl_swap]
  have hmk := make_words n (by omega) w5
  have hZ : WS (w5.alloc (.cells (zeros n) 46)) (some ⟨w5.heap.size, 0, none⟩) n n (List.replicate n 0) := (rowW_zeros w5 n).ws (by simp) (by omega) (Nat.le_refl _) (by omega)
  go_wp2_with (fail)
  refine (of_yes _ _ n n n a (List.replicate n 0) k _ (hA.ext (Ext.new _ _)) hZ (by omega) (by omega)).mono ?_
  rintro e w6 ⟨sz, mz, cz, rfl, hQ, hE1⟩
  replace hE1 := (Ext.new w5 (.cells (zeros n) 46)).trans hE1
  replace hA := hA.ext hE1
  replace hB := hB.ext hE1
  replace hL := hL.ext hE1
  replace hM := hM.ext hE1
  replace hE := hE.trans hE1
  have hlen := Lib.hid hL.len
  have hml : m ≤ 30 := by have := ofK_le a b k n; rw [hlen.out] at this; omega
  have hmc : m ≤ cm := hL.lc
  have hzl := Lib.hid hQ.len
  have hzl2 : mz ≤ 1048576 := hQ.le
  have hmm : (m != m) = false := by simp
  have hnil : RowKit.Hid (a = b ↔ m = 0) := Lib.hid (by
    rw [← hlen.out, ofK_len, ← unl_same hal.out hbl.out]
    constructor
    · intro h; rw [h]; rfl
    · intro h; exact List.eq_nil_of_length_eq_zero h)
  have hznil : RowKit.Hid (zeroB a = true ↔ mz = 0) := Lib.hid (by
    rw [zero_of hal.out, ← hzl.out, ofK_len, ← unl_same hal.out (by simp)]
    constructor
    · intro h; rw [h]; rfl
    · intro h; exact List.eq_nil_of_length_eq_zero h)
  clear hE1 hmk hZ hQ
  obtain ⟨r, er⟩ : ∃ r, RowKit.Hid (r = decide (a = b)) := ⟨_, Lib.hid rfl⟩
  obtain ⟨r2, er2⟩ : ∃ r2, RowKit.Hid (r2 = zeroB a) := ⟨_, Lib.hid rfl⟩
  have hr1 : RowKit.Hid (decide (m = 0) = r) := Lib.hid (by rw [er.out]; exact decide_eq_decide.2 hnil.out.symm)
  have hr2 : RowKit.Hid (decide (mz = 0) = r2) := Lib.hid (by
    rw [er2.out]
    cases hq : zeroB a with
    | true => exact decide_eq_true (hznil.out.1 hq)
    | false => exact decide_eq_false (fun e => by rw [hznil.out.2 e] at hq; cases hq))
  go_wp2_with (fail)
  refine (same_any _ _ n n n n a b r _ hA hB er).mono ?_
  rintro e w7 ⟨rfl, hE1⟩
  replace hA := hA.ext hE1
  replace hB := hB.ext hE1
  replace hL := hL.ext hE1
  replace hM := hM.ext hE1
  replace hE := hE.trans hE1
  clear hE1
  go_wp2_with (fail)
  refine (same_any _ _ n n n n b a r _ hB hA (Lib.hid (by rw [er.out]; exact decide_eq_decide.2 ⟨fun h => h.symm, fun h => h.symm⟩))).mono ?_
  rintro e w8 ⟨rfl, hE1⟩
  replace hA := hA.ext hE1
  replace hB := hB.ext hE1
  replace hL := hL.ext hE1
  replace hM := hM.ext hE1
  replace hE := hE.trans hE1
  clear hE1
  have hrr : (!(r == r)) = false := by simp
  have hrr2 : (!(r2 == r2)) = false := by simp
  go_wp2_with (fail)
  refine (same_any _ _ n n n n a a true _ hA hA (Lib.hid (decide_eq_true rfl).symm)).mono ?_
  rintro e w9 ⟨rfl, hE1⟩
  replace hA := hA.ext hE1
  replace hB := hB.ext hE1
  replace hL := hL.ext hE1
  replace hM := hM.ext hE1
  replace hE := hE.trans hE1
  clear hE1
  have q1 : (mz == 0) = r2 := by rw [← hr2.out]; by_cases h : mz = 0 <;> simp [h]
  have q2 : ((mz : Int) == 0) = r2 := by rw [← hr2.out]; by_cases h : mz = 0 <;> simp [h]
  have q3 : (m == 0) = r := by rw [← hr1.out]; by_cases h : m = 0 <;> simp [h]
  have q4 : ((m : Int) == 0) = r := by rw [← hr1.out]; by_cases h : m = 0 <;> simp [h]
  go_wp2_with (fail)
  refine (zero_any _ n n a r2 _ hA er2).mono ?_
  rintro e w' ⟨rfl, rfl⟩
  go_wp2_with (fail)
  refine (same_any _ _ n n n n a b r _ hA hB er).mono ?_
  rintro e w10 ⟨rfl, hE1⟩
  replace hA := hA.ext hE1
  replace hB := hB.ext hE1
  replace hL := hL.ext hE1
  replace hM := hM.ext hE1
  replace hE := hE.trans hE1
  clear hE1
  go_wp2_with (fail)
  clear q1 q2 q3 q4 hrr hrr2
  go_loopw [22] (fun i wr => ∃ j : Nat, j ≤ m ∧ i = .int .i64 j ∧ WS wr (some ⟨ga, 0, none⟩) n n a ∧ WS wr (some ⟨gb, 0, none⟩) n n b ∧ RS wr sl m cm (ofK a b k n) ∧ RS wr sm m cm' (ofK b a k n) ∧ Ext w wr) (fun i _ => m - (intOf i).toNat)
  case atStart => exact ⟨0, by omega, rfl, hA, hB, hL, hM, hE⟩
  case round =>
    clear hA hB hL hM hE
    obtain ⟨j, hj, rfl, hA, hB, hL, hM, hE⟩ := hrel
    by_cases hlt : j < m
    · obtain ⟨p, x, hx, ⟨p0, p1⟩, ux, bl, ol, rfl, l0, l1⟩ := hL.get hlt
      obtain ⟨p', y, hy, ⟨p0', p1'⟩, uy, bm, om, rfl, m0, m1⟩ := hM.get hlt
      obtain ⟨z, hz, hzn, rfl, ex, hne⟩ := ofK_at hx
      obtain ⟨z', hz', hzn', rfl, ey, _⟩ := ofK_at hy
      rw [unl_swap] at hz'
      obtain rfl : z = z' := by rw [hz] at hz'; cases hz'; rfl
      obtain ⟨va, hva, _, _, _, e1, da⟩ := hA.get hzn
      cases e1
      obtain ⟨vb, hvb, _, _, _, e2, db⟩ := hB.get hzn
      cases e2
      rw [hvb] at ex
      rw [hva] at ey
      simp only [Option.getD_some] at ex ey
      subst ex
      subst ey
      have hab : ¬ y = x := fun e => hne (by rw [hva, hvb]; simp [e])
      have hb1 : (y == x) = false := by simpa using hab
      have hb2 : (x != x) = false := by simp
      have hb3 : (y != y) = false := by simp
      have hs1 : (k : Int) + (z : Int) - (k : Int) = z := by omega
      have hs3 : IntKind.i64.wrap (z : Int) = z := IntWalk.i64_in _ (by omega)
      have hs4 : (z : Int) < n := by omega
      have hs5 : (z : Int).toNat = z := by omega
      have hs6 : ((z : Int) != (z : Int)) = false := by simp
      have hs7 : (z != z) = false := by simp
      have hs8 : (j : Int) < m := by omega
      rw [Nat.zero_add] at da db
      clear hx hy hz hz' hva hvb hne hab p0 p1 p0' p1' ux uy hzl2 i1 i2 i3
      go_wp2_with (fail)
      go_quiet (fail)
      go_wp2_with (fail)
      go_roundw
      case rel => exact ⟨j + 1, by omega, by go_num, hA.ext (Ext.draws wr nq), hB.ext (Ext.draws wr nq), hL.ext (Ext.draws wr nq), hM.ext (Ext.draws wr nq), hE.drewN nq⟩
      case measure => simp [intOf]; omega
    · obtain rfl : j = m := by omega
      obtain ⟨i, ei, li⟩ := nat_of (c := turn) (n := (j : Int) + 1) (by omega)
      go_wp2_with (fail)
      refine (pick_is _ ((j : Int) + 1) i _ ei i3 (by omega) (by omega)).mono ?_
      rintro e w' ⟨rfl, rfl⟩
      obtain ⟨s2', n2', c2', sa, ca, wa, sb, N, cb, wb, q1, q2, ra, rb, hR, hE1⟩ := cut_turn hL (by omega : i ≤ j)
      have Ra := Lib.hid ra
      have Rb := Lib.hid rb
      have hp : RowKit.Hid (patchL k a ((ofK a b k n).drop i ++ (ofK a b k n).take i) = some b) := Lib.hid (patch_of_perm (by rw [hal.out, hbl.out]) (by rw [hal.out, hbl.out]) (fun y => by
        rw [hal.out, List.mem_append]
        constructor
        · rintro (h | h)
          · exact List.mem_of_mem_drop h
          · exact List.mem_of_mem_take h
        · intro h
          rw [← List.take_append_drop i (ofK a b k n)] at h
          exact (List.mem_append.1 h).symm) (fun _ _ h => h))
      have hAb := hA.ext hE1
      clear ra rb
      go_wp2_with (fail)
      go_region_held3 (fun _ => (True ∧ True)) (exact ⟨trivial, trivial⟩)
        (first
          | (go_at_call 18; (with_reducible refine (patch_yes _ _ n n N cb a b _ k _ hAb hR (by omega) (by omega) hp.out).mono ?_); rintro e w11 ⟨sc, cc, rfl, hC, hE2⟩)
          | (refine step_append_run wr.drew (by rfl) (.const (.slice none 0 0)) (.tmp 185) 23 23 (by rfl) (.slice none 0 0) (.slice s2' n2' c2') (by rfl) (by rfl) _ _ Ra.out ?_)
          | (refine step_append_run wa (by rfl) (.tmp 186) (.tmp 189) 23 23 (by rfl) (.slice sa n2' ca) (.slice sl i cm) (by rfl) (by rfl) _ _ Rb.out ?_))
      replace hB := (hB.ext hE1).ext hE2
      replace hE := (hE.trans hE1).trans hE2
      clear q1 q2 Ra Rb hL hM hA hAb hE1 hE2 hR
      go_wp2_with (fail)
      refine (same_any _ _ n n cc n b b true _ hC hB (Lib.hid (decide_eq_true rfl).symm)).mono ?_
      rintro e w12 ⟨rfl, hE1⟩
      replace hE := hE.trans hE1
      clear hE1
      go_wp2_with (fail)
      go_ret
      exact ⟨rfl, hE⟩

end Go.Proofs.Ytdofplmoiljkjaa
