/-
  What the document's own Of and Patch return, and the statements' own words of raw numbers. Conditions: the words, the writes and the raw numbers are there.
-/
import Derived.Test.YtdofplmoiljkjaaPatch
import Derived.Lib.AppendZeros
import Derived.Deep.RegionHeld3
namespace Go.Proofs.Ytdofplmoiljkjaa
open Go.RowKit (Below intOf)

theorem own_ge {W : World} {base : Nat} {e : TypeId} {size n : Nat} {v : Value} {xs : List Value} (h : W.ownsRow base e size v n xs) : ∀ k, v.ownBlock = some k → base ≤ k := fun k hk => by
  rcases h.2 with ⟨rfl, _⟩ | ⟨g, cap, cur, rfl, hb, _⟩
  · cases hk
  · simp [Value.ownBlock] at hk; omega

theorem rof_no (sa sb : Option Addr) (n m ca cb : Nat) (base : Int) (w : World) (h : n ≠ m ∨ base < 0 ∨ 1048576 < base) :
    Calls Try.prog 12 #[.slice sa n ca, .slice sb m cb, .int .i64 base] w fun e w' => e = .returned (.tuple #[.slice none 0 0, .int .i64 1]) ∧ Ext w w' := by
  by_cases hnm : n = m
  · subst hnm
    have hb0 : (n != n) = false := by simp
    by_cases hb : base < 0
    · clear h
      go_enter Try.func12, Try.ntmps12
      go_wp2
      go_ret2
      exact ⟨rfl, Ext.refl w⟩
    · have h2 : base > 1048576 := by omega
      clear h
      go_enter Try.func12, Try.ntmps12
      go_wp2
      go_ret2
      exact ⟨rfl, Ext.refl w⟩
  · have hb : ((n : Int) != (m : Int)) = true := by simp; omega
    have hb2 : (n != m) = true := by simpa using hnm
    clear h
    go_enter Try.func12, Try.ntmps12
    go_wp2
    go_ret2
    exact ⟨rfl, Ext.refl w⟩

set_option maxRecDepth 100000 in
set_option maxHeartbeats 4000000 in
theorem rof_yes (sa sb : Option Addr) (n ca cb : Nat) (a b : List Int) (base : Int) (w : World) (hA : WS w sa n ca a) (hB : WS w sb n cb b) (g0 : 0 ≤ base) (g1 : base ≤ 1048576) :
    Calls Try.prog 12 #[.slice sa n ca, .slice sb n cb, .int .i64 base] w fun e w' => ∃ sl m c, e = .returned (.tuple #[.slice sl m c, .int .i64 0]) ∧ RS w' sl m c (ofK a b base n) ∧ Ext w w' := by
  have hn := hA.le
  have hb0 : (n != n) = false := by simp
  obtain ⟨i0, hi, hz0, hz1, hz2⟩ := info_parts info48
  have HA := Lib.hid hA
  have HB := Lib.hid hB
  have Hi := Lib.hid hi
  have Hz0 := Lib.hid hz0
  have Hz1 := Lib.hid hz1
  have Hz2 := Lib.hid hz2
  clear hA hB hi hz0 hz1 hz2
  go_enter Try.func12, Try.ntmps12
  go_wp2_with (fail)
  go_loopw [8, 9] (fun v i wr => ∃ (k : Nat), k ≤ n ∧ i = .int .i64 k ∧ wr.ownsRow w.heap.size 48 2 v (ofK a b base k).length (flat (ofK a b base k)) ∧ Below w.heap.size w wr) (fun _ i _ => n - (intOf i).toNat)
  case atStart => exact ⟨0, by omega, rfl, World.ownsRow_nil _ _ _ _, Ext.refl w⟩
  case round =>
    obtain ⟨k, hk, rfl, hrow, hE⟩ := hrel
    by_cases hlt : k < n
    · obtain ⟨x, hx, hux, b1, o1, rfl, hc1⟩ := (HA.out.ext hE).get hlt
      obtain ⟨y, hy, huy, b2, o2, rfl, hc2⟩ := (HB.out.ext hE).get hlt
      have HX : RowKit.Hid (a[k]?.getD 0 = x) := Lib.hid (by rw [hx]; rfl)
      have HY : RowKit.Hid (b[k]?.getD 0 = y) := Lib.hid (by rw [hy]; rfl)
      have hle := ofK_le a b base k
      clear hx hy
      by_cases hxy : x = y
      · subst hxy
        have hno : RowKit.Hid (ofK a b base (k + 1) = ofK a b base k) := Lib.hid (ofK_no (by rw [HX.out, HY.out]))
        go_wp2_with (fail)
        go_quiet (fail)
        go_wp2_with (fail)
        go_roundw
        case rel => exact ⟨k + 1, by omega, by go_num, by rw [hno.out]; exact hrow, Ext.drewN hE nq⟩
        case measure => simp [intOf]; omega
      · have hb1 : (x != y) = true := by simpa using hxy
        have hyes : RowKit.Hid (ofK a b base (k + 1) = ofK a b base k ++ [(base + (k : Int), y)]) := Lib.hid (by rw [ofK_yes (by rw [HX.out, HY.out]; exact hxy), HY.out])
        go_wp2_with (fail)
        go_quiet (fail)
        have hrow2 : (wr.drewN nq).ownsRow w.heap.size 48 2 _ (ofK a b base k).length (flat (ofK a b base k)) := hrow
        have hE3 : Below w.heap.size w (wr.drewN nq) := Ext.drewN hE nq
        go_wp2_with (at_builtin; refine wpList_append_own _ rfl _ _ 23 rfl w.heap.size 48 i0 (.agg #[.int .i64 0, .int .u64 0]) 2 16 Try.underlying23 Hi.out Hz0.out Hz1.out Hz2.out rfl (by decide) _ _ _ rfl (hrow2.alloc _) ⟨wr.heap.size, 0, none⟩ 1 1 [.int .i64 (base + (k : Int)), .int .u64 y] rfl rfl (two_cells _ _ _) (by simp [Value.oneCell']) (by unfold maxLen; omega) (by omega) (by have := hE.size; simp; omega) ?_; intro v' w1 hown' hgrow _)
        go_roundw
        case rel => exact ⟨k + 1, by omega, by go_num, by rw [hyes.out, flat_append, List.length_append]; exact hown', Ext.grown (Ext.alloc hE3 _) hgrow (own_ge hrow)⟩
        case measure => simp [intOf]; omega
    · obtain rfl : k = n := by omega
      obtain ⟨sl, c, rfl⟩ := own_form hrow
      go_wp2_with (fail)
      go_ret2
      have hle := ofK_le a b base k
      refine ⟨sl, _, c, rfl, rs_of_own hrow rfl (by omega) (fun y hy => ?_), hE⟩
      obtain ⟨i, hi, _, rfl⟩ := mem_ofK.1 hy
      refine ⟨by unfold I64; simp; omega, ?_⟩
      obtain ⟨x, hx, hu, _⟩ := HB.out.get hi
      simp only [hx]; exact hu

theorem rpatch_base (sa sl : Option Addr) (n ca m cl : Nat) (base : Int) (w : World) (h : base < 0 ∨ 1048576 < base) :
    Calls Try.prog 19 #[.slice sa n ca, .int .i64 base, .slice sl m cl] w fun e w' => e = .returned (.tuple #[.slice none 0 0, .int .i64 1]) ∧ Ext w w' := by
  by_cases hb : base < 0
  · clear h
    go_enter Try.func19, Try.ntmps19
    go_wp2
    go_ret2
    exact ⟨rfl, Ext.refl w⟩
  · have h2 : base > 1048576 := by omega
    clear h
    go_enter Try.func19, Try.ntmps19
    go_wp2
    go_ret2
    exact ⟨rfl, Ext.refl w⟩

/-- append of words onto nil: none, or new ones. -/
theorem append_words {w : World} {sa : Option Addr} {n ca : Nat} {a : List Int} (hA : WS w sa n ca a) (ty : TypeId) :
    ∃ sl c w2, (Builtin.append_ #[22, 22] ty #[.slice none 0 0, .slice sa n ca]).run Try.prog w = .ok (.slice sl n c) w2 ∧ n ≤ c ∧ c ≤ 9223372036854775807 ∧ (0 < n → sl = some ⟨w.heap.size, 0, none⟩) ∧ RowW w2 w.heap.size a ∧ Below w.heap.size w w2 := by
  obtain ⟨i0, hi, hz0, hz1, hz2⟩ := info_parts info46
  by_cases h0 : n = 0
  · subst h0
    have ha : a = [] := List.eq_nil_of_length_eq_zero hA.len
    subst ha
    refine ⟨none, 0, w, ?_, by omega, by omega, by omega, fun j x hx => by simp at hx, Ext.refl w⟩
    cases sa with
    | none => simp [Builtin.append_, run_underlying Try.underlying22, sizeOf, typeInfo, hi, Builtin.lenOf, Builtin.firstCells]
    | some ad => simp [Builtin.append_, run_underlying Try.underlying22, sizeOf, typeInfo, hi, Builtin.lenOf, Builtin.firstCells, loadCells, loadCellsFrom]
  · obtain ⟨b, o, rfl⟩ := hA.addr (by omega)
    have hle := hA.le
    obtain ⟨v', w', hrun, h2, h3, h4, h5⟩ := run_append_own_at (P := Try.prog) w w.heap.size 22 ty 46 i0 _ 1 8 Try.underlying22 hi hz0 hz1 hz2 rfl (by decide) (.slice none 0 0) 0 [] (World.ownsRow_nil w w.heap.size 46 1) ⟨b, o, none⟩ n ca (a.map (Value.int .u64)) (by rw [List.length_map, hA.len]; omega) hA.vals
      (by intro v hv; obtain ⟨x, _, rfl⟩ := List.mem_map.1 hv; rfl) (by unfold maxLen; omega) (by omega) (Nat.le_refl _)
    rw [Nat.zero_add] at h2
    rcases h2.2 with ⟨_, hz⟩ | ⟨g, cap, cur, rfl, hb, hg, hnc, hcm, hcs, ht⟩
    · omega
    · have hgw : g = w.heap.size := by
        rcases h5 with h5 | h5
        · simp [Value.ownBlock] at h5
        · simpa [Value.ownBlock] using h5
      subst hgw
      refine ⟨_, cap, w', hrun, hnc, by unfold maxLen at hcm; omega, fun _ => rfl, rowW_of_block hg (fun j x hx => ⟨hA.u64 x (List.mem_of_getElem? hx), ?_⟩), Ext.grown (Ext.refl w) h3 (fun k e => by simp [Value.ownBlock] at e)⟩
      have hj : j < a.length := (List.getElem?_eq_some_iff.1 hx).1
      have h1 : (cur.toList.take (n * 1))[j]? = some (Value.int .u64 x) := by rw [ht, List.nil_append, List.getElem?_map, hx]; rfl
      rw [List.getElem?_take, if_pos (by rw [hA.len] at hj; omega)] at h1
      simpa using h1

/-- append of writes onto a row of one's own. -/
theorem append_writes {w : World} {base n m c : Nat} {v : Value} {ys zs : List Wr} {sl : Option Addr} (hown : w.ownsRow base 48 2 v n (flat ys)) (hS : RS w sl m c zs) (hle : n + m ≤ 4194304) (hbase : base ≤ w.heap.size) (ty : TypeId) :
    ∃ v' w', (Builtin.append_ #[23, 23] ty #[v, .slice sl m c]).run Try.prog w = .ok v' w' ∧ w'.ownsRow base 48 2 v' (n + m) (flat (ys ++ zs)) ∧ w.grownBy w' v.ownBlock := by
  obtain ⟨i0, hi, hz0, hz1, hz2⟩ := info_parts info48
  cases sl with
  | none =>
    have hm : m = 0 := by
      rcases Nat.eq_zero_or_pos m with h | h
      · exact h
      · obtain ⟨_, _, _, _, _, b, o, e, _⟩ := hS.get h; cases e
    subst hm
    have hz : zs = [] := List.eq_nil_of_length_eq_zero hS.len
    subst hz
    refine ⟨v, w, ?_, by simpa using hown, ⟨rfl, rfl, rfl, Nat.le_refl _, fun _ _ _ => rfl⟩⟩
    rcases hown.2 with ⟨rfl, rfl⟩ | ⟨g, cap, cur, rfl, _, _, hnc, _⟩
    · simp [Builtin.append_, run_underlying Try.underlying23, sizeOf, typeInfo, hi, Builtin.lenOf, Builtin.firstCells]
    · simp [Builtin.append_, run_underlying Try.underlying23, sizeOf, typeInfo, hi, Builtin.lenOf, Builtin.firstCells, hnc, storeCells]
  | some ad =>
    have hcells : ∀ j u, (flat zs)[j]? = some u → w.cell? (ad.add j) = some u := by
      rcases Nat.eq_zero_or_pos m with h | h
      · have hz : zs = [] := List.eq_nil_of_length_eq_zero (by rw [hS.len, h])
        subst hz; intro j u hu; simp [flat] at hu
      · obtain ⟨_, _, _, _, _, b, o, e, _⟩ := hS.get h
        cases e; exact hS.news
    obtain ⟨v', w', hrun, h2, h3, _, _⟩ := run_append_own_at (P := Try.prog) w base 23 ty 48 i0 _ 2 16 Try.underlying23 hi hz0 hz1 hz2 rfl (by decide) v n (flat ys) hown ad m c (flat zs) (by rw [flat_len, hS.len]) hcells (flat_one zs) (by unfold maxLen; omega) (by omega) hbase
    exact ⟨v', w', hrun, by rw [flat_append]; exact h2, h3⟩

theorem set_far {W : World} {g j b i : Nat} {v x : Value} (h : b ≠ g) (hc : W.cell? ⟨b, i, none⟩ = some x) : (W.setCell ⟨g, j, none⟩ v).drew.cell? ⟨b, i, none⟩ = some x := by
  show (W.setCell ⟨g, j, none⟩ v).cell? ⟨b, i, none⟩ = some x
  rw [World.cell?_setCell_other _ _ _ _ (fun e => h (by cases e; rfl))]; exact hc

set_option maxRecDepth 100000 in
set_option maxHeartbeats 4000000 in
theorem rpatch_any (sa sl : Option Addr) (n ca m cl : Nat) (a : List Int) (l : List Wr) (base : Int) (w : World) (hA : WS w sa n ca a) (hL : RS w sl m cl l) (g0 : 0 ≤ base) (g1 : base ≤ 1048576) :
    Calls Try.prog 19 #[.slice sa n ca, .int .i64 base, .slice sl m cl] w (PatchPost (patchL base a l) w n) := by
  have hn := hA.le
  have hm := hL.le
  obtain ⟨so, co, w2, hap, hnc, hco, hso, hrw, hE2⟩ := append_words hA 22
  have HA := Lib.hid hA
  have HL := Lib.hid hL
  have HR := Lib.hid hrw
  have HS := Lib.hid hso
  clear hA hL hrw hso
  have hpl : RowKit.Hid (patchL base a l = patchL base a (l.drop 0)) := Lib.hid rfl
  go_enter Try.func19, Try.ntmps19
  go_wp2_with (at_builtin; refine Lib.wpList_append_run _ rfl _ _ _ _ rfl _ _ rfl rfl _ _ hap ?_)
  clear hap
  go_loopw [9] (fun i wr => ∃ (k : Nat) (cur : List Int), k ≤ m ∧ i = .int .i64 k ∧ Below w.heap.size w wr ∧ RowKit.Hid (RowW wr w.heap.size cur ∧ cur.length = n ∧ patchL base a l = patchL base cur (l.drop k))) (fun i _ => m - (intOf i).toNat)
  case atStart => exact ⟨0, a, by omega, rfl, hE2, Lib.hid ⟨HR.out, HA.out.len, hpl.out⟩⟩
  case round =>
    obtain ⟨k, cur, hk, rfl, hE, hin⟩ := hrel
    by_cases hlt : k < m
    · obtain ⟨p, x, hx, hp, hu, b, o, rfl, hc, hd⟩ := (HL.out.ext hE).get hlt
      obtain ⟨p0, p1⟩ := hp
      have hbn : b ≠ w.heap.size := by
        obtain ⟨_, _, _, _, _, b', o', e', hc', _⟩ := HL.out.get hlt
        cases e'
        have := World.block_lt_of_cell? w _ hc'
        simp at this; omega
      have HX : RowKit.Hid (l.drop k = (p, x) :: l.drop (k + 1)) := Lib.hid (drop_cons hx)
      clear hx
      by_cases hb : p < base
      · go_wp2_with (fail)
        go_ret2
        exact patch_refused (by rw [hin.out.2.2, HX.out, patch_bad (.inl hb)]) hE
      · by_cases hb2 : (n : Int) ≤ p - base
        · have hb3 : base + (n : Int) ≤ p := by omega
          go_wp2_with (fail)
          go_ret2
          exact patch_refused (by rw [hin.out.2.2, HX.out, patch_bad (.inr (by rw [hin.out.2.1]; exact hb2))]) hE
        · obtain ⟨j, hj⟩ : ∃ j : Nat, p - base = j := ⟨(p - base).toNat, by omega⟩
          obtain rfl : p = base + j := by omega
          have hjn : j < n := by omega
          obtain rfl := HS.out (by omega)
          obtain ⟨z, hz, hzf⟩ := hin.out.1.get (i := j) (by rw [hin.out.2.1]; exact hjn)
          have hin2 : RowKit.Hid (RowW (wr.setCell ⟨w.heap.size, j, none⟩ (.int .u64 x)).drew w.heap.size (cur.set j x) ∧ patchL base a l = patchL base (cur.set j x) (l.drop (k + 1))) :=
            Lib.hid ⟨(hin.out.1.set (by rw [hin.out.2.1]; exact hjn) hu).ext (Ext.drew (Ext.refl _)), by
              rw [hin.out.2.2, HX.out, patch_ok (by rw [hin.out.2.1]; simp; omega)]
              congr 2; simp; omega⟩
          have hs1 : base + (j : Int) - base = j := by omega
          have hs3 : IntKind.i64.wrap (j : Int) = j := IntWalk.i64_in _ (by omega)
          have hs4 : (j : Int) < n := by omega
          have hs5 : (j : Int).toNat = j := by omega
          go_wp2_with (fail)
          go_region_held3 (fun w' => (w'.cell? ⟨b, o + k * 2, none⟩ = some (.int .i64 (base + j)) ∧ w'.cell? ⟨b, o + k * 2 + 1, none⟩ = some (.int .u64 x)))
            (first | exact ⟨set_far hbn hc, set_far hbn hd⟩ | go_keep)
            (fail)
          rename_i hh
          clear hh
          go_wp2_with (fail)
          go_roundw
          case rel => exact ⟨k + 1, cur.set j x, by omega, by go_num, Ext.drew (Below.setCell (p := ⟨w.heap.size, j, none⟩) hE (Nat.le_refl _) _), Lib.hid ⟨hin2.out.1, by rw [List.length_set]; exact hin.out.2.1, hin2.out.2⟩⟩
          case measure => simp [intOf]; omega
    · obtain rfl : k = m := by omega
      go_wp2_with (fail)
      go_ret2
      have h2 := hin.out.2.2
      rw [List.drop_eq_nil_of_le (by rw [HL.out.len]; omega)] at h2
      refine patch_told h2 hE ?_
      by_cases h0 : n = 0
      · subst h0
        have hc0 : cur = [] := List.eq_nil_of_length_eq_zero hin.out.2.1
        rw [hc0]; exact WS.empty _ _ _ hco
      · obtain rfl := HS.out (by omega)
        exact hin.out.1.ws hin.out.2.1 hn hnc hco

end Go.Proofs.Ytdofplmoiljkjaa
