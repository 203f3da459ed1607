/-
  What Then returns: each place that is written, rising, with its last write. Conditions: the writes are there; at most 2^20 in all.
-/
import Derived.Test.YtdofplmoiljkjaaKeys
namespace Go.Proofs.Ytdofplmoiljkjaa
open Go.RowKit (Below intOf)

theorem RS.grown {w w' : World} {sl : Option Addr} {n c : Nat} {ys : List Wr} {row : Option Nat} (h : RS w sl n c ys) (g : w.grownBy w' row) (hne : ∀ b o, sl = some ⟨b, o, none⟩ → some b ≠ row) : RS w' sl n c ys :=
  ⟨h.1, h.2.1, h.2.2.1, h.2.2.2.1, fun j y hy => by
    obtain ⟨h1, h2, b, o, hs, hc, hd⟩ := h.2.2.2.2 j y hy
    exact ⟨h1, h2, b, o, hs, g.cell hc (hne b o hs), g.cell hd (hne b o hs)⟩⟩

theorem own_addr {W : World} {base : Nat} {e : TypeId} {size n c : Nat} {sl : Option Addr} {xs : List Value} (h : W.ownsRow base e size (.slice sl n c) n xs) : ∀ b o, sl = some ⟨b, o, none⟩ → base ≤ b := fun b o e => by
  subst e
  exact own_ge h b rfl

theorem map_ext {H : Type} {w w' : World} {b n : Nat} {R : Value → Option (DataW H × List MemPlace)} {D : DataW H} (h : w.ownsMap Try.prog 3 R b n D) (e : Ext w w') : w'.ownsMap Try.prog 3 R b n D := by
  have hl := h.lt
  obtain ⟨es, clock, hb, Ft, hs, hD⟩ := h
  exact ⟨es, clock, (Below.block e b hl).trans hb, Ft, hs, hD⟩

theorem take_succ {α : Type} {l : List α} {k : Nat} {y : α} (h : l[k]? = some y) : l.take (k + 1) = l.take k ++ [y] := by
  obtain ⟨hl, e⟩ := List.getElem?_eq_some_iff.1 h
  rw [List.take_succ_eq_append_getElem hl, e]

/-- An int of a row of one's own. -/
theorem int_at {W : World} {base n c : Nat} {sl : Option Addr} {ks : List Int} (h : W.ownsRow base 3 1 (.slice sl n c) n (ks.map encZ)) {k : Nat} (hk : k < n) : ∃ p g, ks[k]? = some p ∧ sl = some ⟨g, 0, none⟩ ∧ W.cell? ⟨g, k, none⟩ = some (.int .i64 p) := by
  rcases h.2 with ⟨e, hz⟩ | ⟨g, cap, cur, e, _, hb, hnc, hcm, hcs, ht⟩
  · omega
  · cases e
    have hl : ks.length = n := by have := h.1; simpa using this
    have hkl : k < ks.length := by omega
    refine ⟨ks[k], g, List.getElem?_eq_getElem hkl, rfl, ?_⟩
    have h1 : (cur.toList.take (n * 1))[k]? = some (encZ ks[k]) := by rw [ht, List.getElem?_map, List.getElem?_eq_getElem hkl]; rfl
    rw [List.getElem?_take, if_pos (by omega)] at h1
    simp only [World.cell?, hb]
    simpa using h1

set_option maxRecDepth 100000 in
set_option maxHeartbeats 8000000 in
theorem then_any (s1 s2 : Option Addr) (n1 n2 c1 c2 : Nat) (l m : List Wr) (w : World) (h1 : RS w s1 n1 c1 l) (h2 : RS w s2 n2 c2 m) (hnm : n1 + n2 ≤ 1048576) :
    Calls Try.prog 20 #[.slice s1 n1 c1, .slice s2 n2 c2] w fun e w' => ∃ sl n c t, e = .returned (.slice sl n c) ∧ RS w' sl n c t ∧ IsThen (l ++ m) t ∧ Ext w w' := by
  have hmm := @RowKit.run_makeMap Try.prog
  have hm0 := World.ownsMap_made w Try.prog 3 (plainElem (H := Unit) Try.prog 46)
  obtain ⟨i0, hi, hz0, hz1, hz2⟩ := info_parts info48
  have Hi := Lib.hid hi
  have Hz0 := Lib.hid hz0
  have Hz1 := Lib.hid hz1
  have Hz2 := Lib.hid hz2
  have hall := Lib.hid (fun y (hy : y ∈ l ++ m) => (List.mem_append.1 hy).elim (h1.range y) (h2.range y))
  have H1 := Lib.hid h1
  have H2 := Lib.hid h2
  clear h1 h2 hi hz0 hz1 hz2
  go_enter Try.func20, Try.ntmps20
  go_wp2_with (fail)
  obtain ⟨W0, hW0⟩ : ∃ W0, (w.alloc (.map #[] 0)).alloc (.cells #[.slice s1 n1 c1, .slice s2 n2 c2] 23) = W0 := ⟨_, rfl⟩
  have hE0 : Below w.heap.size w W0 := by rw [← hW0]; exact ((Ext.refl w).alloc _).alloc _
  have hs0 : W0.heap.size = w.heap.size + 2 := by rw [← hW0]; simp
  have hc0 : W0.cell? ⟨w.heap.size + 1, 0, none⟩ = some (.slice s1 n1 c1) := by rw [← hW0]; simp [go_sem]
  have hc1 : W0.cell? ⟨w.heap.size + 1, 1, none⟩ = some (.slice s2 n2 c2) := by rw [← hW0]; simp [go_sem]
  have hm1 : W0.ownsMap Try.prog 3 (plainElem (H := Unit) Try.prog 46) w.heap.size 0 (mapD []) := by rw [← hW0]; exact hm0.alloc _
  rw [hW0]
  clear hW0 hmm hm0
  have hcc := concat_any (w.heap.size + 1) s1 s2 n1 n2 c1 c2 l m W0 hc0 hc1 (H1.out.ext hE0) (H2.out.ext hE0)
  have HC := Lib.hid hcc
  clear hcc hc0 hc1
  refine HC.out.mono ?_
  rintro e W1 ⟨sa, ca, rfl, hown, hE1⟩
  have hna : RowKit.Hid ((l ++ m).length = n1 + n2) := Lib.hid (by rw [List.length_append, H1.out.len, H2.out.len])
  have hrs : RS W1 sa (n1 + n2) ca (l ++ m) := rs_of_own hown hna.out hnm hall.out
  have hsa : RowKit.Hid (∀ b o, sa = some ⟨b, o, none⟩ → some b ≠ some w.heap.size) := Lib.hid (fun b o e => by have := own_addr hown b o e; simp; omega)
  have hm2 := map_ext hm1 hE1
  have hEw : Below w.heap.size w W1 := Ext.trans hE0 hE1
  obtain ⟨N, eN⟩ : ∃ N, RowKit.Hid (n1 + n2 = N) := ⟨_, Lib.hid rfl⟩
  rw [eN.out] at hrs hnm hna ⊢
  obtain ⟨all, eall⟩ : ∃ all, RowKit.Hid (l ++ m = all) := ⟨_, Lib.hid rfl⟩
  rw [eall.out] at hrs hna hall
  clear hown hm1 hE0 hE1 HC H1 H2
  go_wp2_with (fail)
  go_loopw [17] (fun i wr => ∃ k : Nat, k ≤ N ∧ i = .int .i64 k ∧ wr.ownsMap Try.prog 3 (plainElem (H := Unit) Try.prog 46) w.heap.size k (mapD (all.take k)) ∧ RS wr sa N ca all ∧ Below w.heap.size w wr) (fun i _ => N - (intOf i).toNat)
  case atStart => exact ⟨0, by omega, rfl, hm2, hrs, hEw⟩
  case round =>
    clear hm2 hrs hEw
    obtain ⟨k, hk, rfl, hm, hr, hE⟩ := hrel
    by_cases hlt : k < N
    · obtain ⟨p, x, hx, hp, hu, b, o, rfl, hc, hd⟩ := hr.get hlt
      have hEa : Ext wr (wr.alloc (.cells #[.int .i64 p, .int .u64 x] 48)) := (Ext.refl wr).alloc _
      have hma := map_ext hm hEa
      have hra := hr.ext hEa
      have hwf := i64_wf hp
      have hwf2 := u64_wf hu
      have hst : RowKit.Hid (mapD (H := Unit) (all.take (k + 1)) = (mapD (all.take k)).put (.int .i64 p) (.lit (.int .u64 x))) := Lib.hid (by rw [take_succ hx, mapD_snoc])
      clear hx
      go_wp2_with (at_mapUpdate; refine wpList_mapUpdate_own _ rfl _ _ _ 55 rfl 3 46 (Maps.int_keyed Try.underlying3) Try.underlying55 _ w.heap.size k _ rfl hma (by unfold maxLen; omega) _ _ _ rfl rfl (Maps.keyOf_int_mk Try.underlying3 hwf) _ [] (plainElem_int Try.underlying46 hwf2) ?_; intro w1 hown1 hgrow1)
      go_roundw
      case rel => exact ⟨k + 1, by omega, by go_num, by rw [hst.out]; exact hown1, hra.grown hgrow1 (hsa.out), Ext.grown (Ext.alloc hE _) hgrow1 (fun j e => by cases e; exact Nat.le_refl _)⟩
      case measure => simp [intOf]; omega
    · obtain rfl : k = N := by omega
      have hmf : wr.ownsMap Try.prog 3 (plainElem (H := Unit) Try.prog 46) w.heap.size k (mapD all) := by
        rw [List.take_of_length_le (by rw [hna.out]; omega)] at hm; exact hm
      have hsz := mapD_size hmf
      rw [hna.out] at hsz
      have hmb := map_ext hmf ((Ext.refl wr).alloc (.cells #[.map (some w.heap.size)] 55))
      have hso := sorted_any w.heap.size k wr.heap.size _ _ _ hmb (by simp) (by simp [go_sem]) (by unfold maxLen; omega) (by omega)
      have HS := Lib.hid hso
      clear hso hm hr hsz
      go_wp2_with (first
        | (go_at_call 26; refine (keys_any _ _).mono ?_; rintro e w' ⟨rfl, rfl⟩)
        | (go_at_call 25; refine HS.out.mono ?_; rintro e W3 ⟨v, ss, rfl, hS, hrow, hE3⟩; obtain ⟨sk, ck, rfl⟩ := own_form hrow))
      obtain ⟨hnd, hmem, hlen⟩ := mapD_keys hmb hS
      have hThen := Lib.hid (tell_is hnd hmem)
      have hks : RowKit.Hid (∀ p ∈ ss.mergeSort (fun x y => decide (x ≤ y)), ∃ x, lastW all p = some x ∧ I64 p ∧ U64 x) := Lib.hid (fun p hp => by
        obtain ⟨x, hx⟩ := Option.isSome_iff_exists.1 ((hmem p).1 ((List.mergeSort_perm ss _).mem_iff.1 hp))
        exact ⟨x, hx, hall.out _ (lastW_mem hx)⟩)
      have hkl : RowKit.Hid ((ss.mergeSort (fun x y => decide (x ≤ y))).length = ss.length) := Lib.hid (List.length_mergeSort ss)
      have hm3 := map_ext hmb hE3
      have hEw : Below w.heap.size w W3 := Ext.trans (Ext.alloc hE _) hE3
      rw [hna.out] at hlen
      clear hS hmb HS hnd hmem hE3 hE
      generalize ss.mergeSort (fun x y => decide (x ≤ y)) = ks at hrow hThen hks hkl
      generalize ss.length = q at hrow hkl hlen ⊢
      go_loopw [8, 31] (fun v i ws => ∃ j : Nat, j ≤ q ∧ i = .int .i64 j ∧ ws.ownsRow W3.heap.size 48 2 v j (flat (tell all (ks.take j))) ∧ Below W3.heap.size W3 ws) (fun _ i _ => q - (intOf i).toNat)
      case atStart => exact ⟨0, by omega, rfl, World.ownsRow_nil _ _ _ _, Ext.refl W3⟩
      case round =>
        obtain ⟨j, hj, rfl, hro, hEs⟩ := hrel
        by_cases hjq : j < q
        · obtain ⟨p, g, hp, rfl, hc⟩ := int_at hrow hjq
          obtain ⟨x, hx, hpi, hxu⟩ := hks.out p (List.mem_of_getElem? hp)
          have hcs := Ext.cell hEs hc
          have hms := map_ext hm3 hEs
          have hwf := i64_wf hpi
          have hst : RowKit.Hid (tell all (ks.take (j + 1)) = tell all (ks.take j) ++ [(p, x)]) := Lib.hid (by unfold tell; rw [take_succ hp, List.map_append, List.map_cons, List.map_nil, hx]; rfl)
          have hat : RowKit.Hid ((mapD (H := Unit) all).atKey (.int .i64 p) (.lit (.int .u64 0)) = .lit (.int .u64 x)) := Lib.hid (by rw [(mapD_at p _ _ all rfl).1, hx])
          clear hp hx hc
          go_wp2_with (first
            | (at_lookup; refine wpList_lookup_own_int _ rfl _ _ 55 rfl 3 46 .u64 (Maps.int_keyed Try.underlying3) Try.underlying55 Try.underlying46 (Try.zeroValue46 _) w.heap.size _ _ rfl hms _ _ rfl (Maps.keyOf_int_mk Try.underlying3 hwf) ?_; intro c hat2 hwc; obtain rfl : x = c := by (rw [hat.out] at hat2; cases hat2; rfl))
            | (at_builtin; refine wpList_append_own _ rfl _ _ 23 rfl W3.heap.size 48 i0 (.agg #[.int .i64 0, .int .u64 0]) 2 16 Try.underlying23 Hi.out Hz0.out Hz1.out Hz2.out rfl (by decide) _ _ _ rfl (hro.alloc _) ⟨wr.heap.size, 0, none⟩ 1 1 [.int .i64 p, .int .u64 x] rfl rfl (two_cells _ _ _) (by simp [Value.oneCell']) (by unfold maxLen; omega) (by omega) (by have := hEs.size; simp; omega) ?_; intro v' w1 hown' hgrow _))
          go_roundw
          case rel => exact ⟨j + 1, by omega, by go_num, by rw [hst.out, flat_append]; exact hown', Ext.grown (Ext.alloc hEs _) hgrow (own_ge hro)⟩
          case measure => simp [intOf]; omega
        · obtain rfl : j = q := by omega
          obtain ⟨so, co, rfl⟩ := own_form hro
          go_wp2_with (fail)
          go_ret
          have hT : ks.take j = ks := List.take_of_length_le (by rw [hkl.out]; omega)
          rw [hT] at hro
          refine ⟨so, j, co, tell all ks, rfl, rs_of_own hro (by unfold tell; rw [List.length_map, hkl.out]) (by omega) (fun y hy => ?_), by rw [eall.out]; exact hThen.out, Ext.trans hEw hEs⟩
          unfold tell at hy
          obtain ⟨p, hp, rfl⟩ := List.mem_map.1 hy
          obtain ⟨x, hx, hpi, hxu⟩ := hks.out p hp
          refine ⟨hpi, ?_⟩
          simp only [hx]; exact hxu

end Go.Proofs.Ytdofplmoiljkjaa
