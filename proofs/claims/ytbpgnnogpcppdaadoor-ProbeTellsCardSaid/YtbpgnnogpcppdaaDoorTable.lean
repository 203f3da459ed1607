/-
  The statements' raw tables: what Table returns is a table. Conditions: the integers' bounds; the raw numbers are there.
-/
import Derived.Test.YtbpgnnogpcppdaaDoorAwake
namespace Go.Proofs.YtbpgnnogpcppdaaDoor
open Go.RowKit (Below intOf)

/-- One more put, whatever comes of it. -/
theorem Tb.next {w n : Nat} {xs : List Int} {S : List Rc} (h : Tb w n xs S) {k v : Int} (hk : k ≠ 0) (hu : U64 k) (hv : U64 v) (hz : ¬ (w = 1 ∧ v ≠ 0)) : ∃ S', Tb w n (putS xs w k v).1 S' := by
  by_cases hl : (withR S k v).length ≤ n
  · exact ⟨_, (h.put hk hu hv hz hl).2⟩
  · rw [h.put_full hk hz (by omega)]; exact ⟨S, h⟩
theorem Tb.nb {w n : Nat} {xs : List Int} {S : List Rc} (h : Tb w n xs S) : 1 ≤ n ∧ n ≤ 1024 := ⟨h.n1, h.n2⟩

set_option maxRecDepth 100000 in
set_option maxHeartbeats 2000000 in
theorem table_1 (a b : Int) (sr : Option Addr) (nr cr : Nat) (rs : List Int) (w : World) (ha : I64 a) (hb : I64 b) (hR : IS w sr nr rs) (hv : pick b 2 = 0) :
    Calls Tryd.prog 9 #[.int .i64 a, .int .i64 b, .slice sr nr cr] w fun e w' => Ext w w' ∧ ∃ sl n c xs S, e = .returned (.tuple #[.slice sl n c, .int .i64 1]) ∧ WS w' sl n c xs ∧ Tb 1 (1 + pick a 12).toNat xs S := by
  have hp := pick_bd (c := a) (n := 12) (by omega)
  obtain ⟨N, hN⟩ : ∃ N : Nat, (N : Int) = pick a 12 := ⟨(pick a 12).toNat, by omega⟩
  have e12 : (1 + pick a 12).toNat = 1 + N := by omega
  rw [e12]
  have hN12 : N < 12 := by omega
  have k1 : RowKit.Hid (∀ W, Calls Tryd.prog 10 #[.int .i64 a, .int .i64 12] W fun e w' => e = .returned (.int .i64 N) ∧ W = w') := Lib.hid (fun W => by rw [hN]; exact pick_any a 12 W ha.1 ha.2 (by omega) (by omega))
  have k2 : RowKit.Hid (∀ W, Calls Tryd.prog 10 #[.int .i64 b, .int .i64 2] W fun e w' => e = .returned (.int .i64 0) ∧ W = w') := Lib.hid (fun W => by rw [← hv]; exact pick_any b 2 W hb.1 hb.2 (by omega) (by omega))
  have hnr := hR.2.1
  have HR := Lib.hid hR
  obtain ⟨hb1, hb2⟩ := Tb.empty (w := 1) (n := 1 + N) (by unfold Wd; omega) (by omega) (by omega)
  have Hb1 := Lib.hid hb1
  have Hb2 := Lib.hid hb2
  clear hR hb1 hb2 hv hN hp e12 ha hb
  go_enter Tryd.func9, Tryd.ntmps9
  go_wp2_with (first
    | (go_at_call 10; (with_reducible refine (k1.out _).mono ?_); rintro e w' ⟨rfl, rfl⟩)
    | (go_at_call 10; (with_reducible refine (k2.out _).mono ?_); rintro e w' ⟨rfl, rfl⟩))
  have k3 := rbuild_any (1 + N) 1 none 0 0 [] w (QS.empty _ _ _ (by omega))
  have e3 : buildS (1 + (N : Int)) 1 [] = _ := Hb1.out
  rw [e3] at k3
  refine k3.mono ?_
  rintro e w1 ⟨hE1, s1, n1, c1, rfl, h1⟩
  clear k3 e3
  dsimp only at h1 ⊢
  have HS1 := Lib.hid h1
  clear h1 k1 k2
  go_wp2_with (fail)
  go_loopw [10, 12] (fun t i wr => ∃ (j : Nat) (sl : Option Addr) (n c : Nat) (xs : List Int) (S : List Rc), j ≤ nr ∧ j ≤ 14 ∧ i = .int .i64 j ∧ t = .slice sl n c ∧ RowKit.Hid (WS wr sl n c xs) ∧ RowKit.Hid (Tb 1 (1 + N) xs S) ∧ RowKit.Hid (Ext w wr)) (fun _ i _ => 14 - (intOf i).toNat)
  case atStart => exact ⟨0, s1, n1, c1, _, [], by omega, by omega, rfl, rfl, HS1, Hb2, Lib.hid hE1⟩
  case round =>
    obtain ⟨j, sl, n, c, xs, S, hj, hj4, rfl, rfl, hS, hTb, hE⟩ := hrel
    by_cases hlt : j < nr
    · have hjn : (j : Int) < nr := by omega
      by_cases hl4 : j < 14
      · have hj14 : (j : Int) < 14 := by omega
        obtain ⟨z, _, hz, br, or, rfl, hc⟩ := (HR.out.ext hE.out).get hlt
        have hpz := pick_bd (c := z) (n := 1000) (by omega)
        have kK : RowKit.Hid (∀ W, Calls Tryd.prog 16 #[.int .i64 z] W fun e w' => e = .returned (.int .u64 (keyOf z)) ∧ W = w') := Lib.hid (fun W => key_any z W hz.1 hz.2)
        have kP : RowKit.Hid (∀ W, Calls Tryd.prog 10 #[.int .i64 z, .int .i64 1000] W fun e w' => e = .returned (.int .i64 (pick z 1000)) ∧ W = w') := Lib.hid (fun W => pick_any z 1000 W hz.1 hz.2 (by omega) (by omega))
        have hku := Lib.hid (keyOf_u z)
        obtain ⟨P, eP⟩ : ∃ P, RowKit.Hid (pick z 1000 = P) := ⟨_, Lib.hid rfl⟩
        obtain ⟨K, eK⟩ : ∃ K, RowKit.Hid (keyOf z = K) := ⟨_, Lib.hid rfl⟩
        have hK0 : RowKit.Hid (K ≠ 0) := Lib.hid (by rw [← eK.out]; exact keyOf_pos z)
        rw [eP.out] at kP hpz
        rw [eK.out] at kK hku
        obtain ⟨S', hTb'⟩ := hTb.out.next (k := K) (v := 0) hK0.out hku.out (by unfold U64; omega) (by omega)
        have HT' := Lib.hid hTb'
        have hev : RowKit.Hid (IntKind.u64.wrap (IntKind.u64.wrap (IntKind.i64.wrap 0) * IntKind.u64.wrap P) = 0) := Lib.hid (by
          rw [IntWalk.i64_in 0 (by omega), IntWalk.u64_in 0 (by omega), IntWalk.u64_in P (by omega), IntWalk.u64_in _ (by omega)]; omega)
        have kPut : RowKit.Hid (∀ W, Ext wr W → Calls Tryd.prog 20 #[.slice sl n c, .int .i64 1, .int .u64 K, .int .u64 (IntKind.u64.wrap (IntKind.u64.wrap (IntKind.i64.wrap 0) * IntKind.u64.wrap P))] W (WE (putS xs 1 K 0) W)) := Lib.hid (fun W hW => by rw [hev.out]; exact rput_any sl n c xs 1 K 0 W (hS.out.ext hW) (by unfold I64; omega) hku.out (by unfold U64; omega))
        clear hTb' hz
        go_wp2_with (fail)
        go_region_held3 (fun w' => (w'.cell? ⟨br, or + j, none⟩ = some (.int .i64 z)))
          (first
            | exact Ext.cell x1 hc
            | exact hc
            | go_keep)
          (first
            | (go_at_call 16; (with_reducible refine (kK.out _).mono ?_); rintro e w' ⟨rfl, rfl⟩)
            | (go_at_call 10; (with_reducible refine (kP.out _).mono ?_); rintro e w' ⟨rfl, rfl⟩)
            | (go_at_call 20; (with_reducible refine (kPut.out _ (Ext.drew (Ext.refl wr))).mono ?_); rintro e w1 ⟨hE9, s9, n9, c9, rfl, h9⟩; have x1 : Ext wr w1 := (Ext.drew (Ext.refl wr)).trans hE9))
        all_goals
          rename_i hh
          have HS9 := Lib.hid h9
          have HE9 := Lib.hid (hE.out.trans x1)
          clear hh h9 x1 hE9 kK kP kPut
          go_wp2_with (fail)
          go_roundw
          case rel => exact ⟨j + 1, s9, n9, c9, _, S', by omega, by omega, by go_num, rfl, HS9, HT', HE9⟩
          case measure => simp [intOf]; omega
      · obtain rfl : j = 14 := by omega
        go_wp2_with (fail)
        go_ret2
        exact ⟨hE.out, sl, n, c, xs, S, rfl, hS.out, hTb.out⟩
    · obtain rfl : j = nr := by omega
      go_wp2_with (fail)
      go_ret2
      exact ⟨hE.out, sl, n, c, xs, S, rfl, hS.out, hTb.out⟩

set_option maxRecDepth 100000 in
set_option maxHeartbeats 2000000 in
theorem table_2 (a b : Int) (sr : Option Addr) (nr cr : Nat) (rs : List Int) (w : World) (ha : I64 a) (hb : I64 b) (hR : IS w sr nr rs) (hv : pick b 2 = 1) :
    Calls Tryd.prog 9 #[.int .i64 a, .int .i64 b, .slice sr nr cr] w fun e w' => Ext w w' ∧ ∃ sl n c xs S, e = .returned (.tuple #[.slice sl n c, .int .i64 2]) ∧ WS w' sl n c xs ∧ Tb 2 (1 + pick a 12).toNat xs S := by
  have hp := pick_bd (c := a) (n := 12) (by omega)
  obtain ⟨N, hN⟩ : ∃ N : Nat, (N : Int) = pick a 12 := ⟨(pick a 12).toNat, by omega⟩
  have e12 : (1 + pick a 12).toNat = 1 + N := by omega
  rw [e12]
  have hN12 : N < 12 := by omega
  have k1 : RowKit.Hid (∀ W, Calls Tryd.prog 10 #[.int .i64 a, .int .i64 12] W fun e w' => e = .returned (.int .i64 N) ∧ W = w') := Lib.hid (fun W => by rw [hN]; exact pick_any a 12 W ha.1 ha.2 (by omega) (by omega))
  have k2 : RowKit.Hid (∀ W, Calls Tryd.prog 10 #[.int .i64 b, .int .i64 2] W fun e w' => e = .returned (.int .i64 1) ∧ W = w') := Lib.hid (fun W => by rw [← hv]; exact pick_any b 2 W hb.1 hb.2 (by omega) (by omega))
  have hnr := hR.2.1
  have HR := Lib.hid hR
  obtain ⟨hb1, hb2⟩ := Tb.empty (w := 2) (n := 1 + N) (by unfold Wd; omega) (by omega) (by omega)
  have Hb1 := Lib.hid hb1
  have Hb2 := Lib.hid hb2
  clear hR hb1 hb2 hv hN hp e12 ha hb
  go_enter Tryd.func9, Tryd.ntmps9
  go_wp2_with (first
    | (go_at_call 10; (with_reducible refine (k1.out _).mono ?_); rintro e w' ⟨rfl, rfl⟩)
    | (go_at_call 10; (with_reducible refine (k2.out _).mono ?_); rintro e w' ⟨rfl, rfl⟩))
  have k3 := rbuild_any (1 + N) 2 none 0 0 [] w (QS.empty _ _ _ (by omega))
  have e3 : buildS (1 + (N : Int)) 2 [] = _ := Hb1.out
  rw [e3] at k3
  refine k3.mono ?_
  rintro e w1 ⟨hE1, s1, n1, c1, rfl, h1⟩
  clear k3 e3
  dsimp only at h1 ⊢
  have HS1 := Lib.hid h1
  clear h1 k1 k2
  go_wp2_with (fail)
  go_loopw [10, 12] (fun t i wr => ∃ (j : Nat) (sl : Option Addr) (n c : Nat) (xs : List Int) (S : List Rc), j ≤ nr ∧ j ≤ 14 ∧ i = .int .i64 j ∧ t = .slice sl n c ∧ RowKit.Hid (WS wr sl n c xs) ∧ RowKit.Hid (Tb 2 (1 + N) xs S) ∧ RowKit.Hid (Ext w wr)) (fun _ i _ => 14 - (intOf i).toNat)
  case atStart => exact ⟨0, s1, n1, c1, _, [], by omega, by omega, rfl, rfl, HS1, Hb2, Lib.hid hE1⟩
  case round =>
    obtain ⟨j, sl, n, c, xs, S, hj, hj4, rfl, rfl, hS, hTb, hE⟩ := hrel
    by_cases hlt : j < nr
    · have hjn : (j : Int) < nr := by omega
      by_cases hl4 : j < 14
      · have hj14 : (j : Int) < 14 := by omega
        obtain ⟨z, _, hz, br, or, rfl, hc⟩ := (HR.out.ext hE.out).get hlt
        have hpz := pick_bd (c := z) (n := 1000) (by omega)
        have kK : RowKit.Hid (∀ W, Calls Tryd.prog 16 #[.int .i64 z] W fun e w' => e = .returned (.int .u64 (keyOf z)) ∧ W = w') := Lib.hid (fun W => key_any z W hz.1 hz.2)
        have kP : RowKit.Hid (∀ W, Calls Tryd.prog 10 #[.int .i64 z, .int .i64 1000] W fun e w' => e = .returned (.int .i64 (pick z 1000)) ∧ W = w') := Lib.hid (fun W => pick_any z 1000 W hz.1 hz.2 (by omega) (by omega))
        have hku := Lib.hid (keyOf_u z)
        obtain ⟨P, eP⟩ : ∃ P, RowKit.Hid (pick z 1000 = P) := ⟨_, Lib.hid rfl⟩
        obtain ⟨K, eK⟩ : ∃ K, RowKit.Hid (keyOf z = K) := ⟨_, Lib.hid rfl⟩
        have hK0 : RowKit.Hid (K ≠ 0) := Lib.hid (by rw [← eK.out]; exact keyOf_pos z)
        rw [eP.out] at kP hpz
        rw [eK.out] at kK hku
        obtain ⟨S', hTb'⟩ := hTb.out.next (k := K) (v := P) hK0.out hku.out (by unfold U64; omega) (by omega)
        have HT' := Lib.hid hTb'
        have hev : RowKit.Hid (IntKind.u64.wrap (IntKind.u64.wrap (IntKind.i64.wrap 1) * IntKind.u64.wrap P) = P) := Lib.hid (by
          rw [IntWalk.i64_in 1 (by omega), IntWalk.u64_in 1 (by omega), IntWalk.u64_in P (by omega), IntWalk.u64_in _ (by omega)]; omega)
        have kPut : RowKit.Hid (∀ W, Ext wr W → Calls Tryd.prog 20 #[.slice sl n c, .int .i64 2, .int .u64 K, .int .u64 (IntKind.u64.wrap (IntKind.u64.wrap (IntKind.i64.wrap 1) * IntKind.u64.wrap P))] W (WE (putS xs 2 K P) W)) := Lib.hid (fun W hW => by rw [hev.out]; exact rput_any sl n c xs 2 K P W (hS.out.ext hW) (by unfold I64; omega) hku.out (by unfold U64; omega))
        clear hTb' hz
        go_wp2_with (fail)
        go_region_held3 (fun w' => (w'.cell? ⟨br, or + j, none⟩ = some (.int .i64 z)))
          (first
            | exact Ext.cell x1 hc
            | exact hc
            | go_keep)
          (first
            | (go_at_call 16; (with_reducible refine (kK.out _).mono ?_); rintro e w' ⟨rfl, rfl⟩)
            | (go_at_call 10; (with_reducible refine (kP.out _).mono ?_); rintro e w' ⟨rfl, rfl⟩)
            | (go_at_call 20; (with_reducible refine (kPut.out _ (Ext.drew (Ext.refl wr))).mono ?_); rintro e w1 ⟨hE9, s9, n9, c9, rfl, h9⟩; have x1 : Ext wr w1 := (Ext.drew (Ext.refl wr)).trans hE9))
        all_goals
          rename_i hh
          have HS9 := Lib.hid h9
          have HE9 := Lib.hid (hE.out.trans x1)
          clear hh h9 x1 hE9 kK kP kPut
          go_wp2_with (fail)
          go_roundw
          case rel => exact ⟨j + 1, s9, n9, c9, _, S', by omega, by omega, by go_num, rfl, HS9, HT', HE9⟩
          case measure => simp [intOf]; omega
      · obtain rfl : j = 14 := by omega
        go_wp2_with (fail)
        go_ret2
        exact ⟨hE.out, sl, n, c, xs, S, rfl, hS.out, hTb.out⟩
    · obtain rfl : j = nr := by omega
      go_wp2_with (fail)
      go_ret2
      exact ⟨hE.out, sl, n, c, xs, S, rfl, hS.out, hTb.out⟩

/-- What Table returns: a table of words, of one of the two widths. -/
theorem table_any (a b : Int) (sr : Option Addr) (nr cr : Nat) (rs : List Int) (w : World) (ha : I64 a) (hb : I64 b) (hR : IS w sr nr rs) :
    Calls Tryd.prog 9 #[.int .i64 a, .int .i64 b, .slice sr nr cr] w fun e w' => Ext w w' ∧ ∃ (v : Nat) (sl : Option Addr) (n c N : Nat) (xs : List Int) (S : List Rc), Wd v ∧ e = .returned (.tuple #[.slice sl n c, .int .i64 (v : Int)]) ∧ WS w' sl n c xs ∧ Tb v N xs S ∧ N ≤ 12 := by
  have h2 := pick_bd (c := b) (n := 2) (by omega)
  have h12 := pick_bd (c := a) (n := 12) (by omega)
  rcases (by omega : pick b 2 = 0 ∨ pick b 2 = 1) with h | h
  · exact (table_1 a b sr nr cr rs w ha hb hR h).mono fun e w' ⟨hE, sl, n, c, xs, S, h1, h3, h4⟩ => ⟨hE, 1, sl, n, c, _, xs, S, .inl rfl, h1, h3, h4, by omega⟩
  · exact (table_2 a b sr nr cr rs w ha hb hR h).mono fun e w' ⟨hE, sl, n, c, xs, S, h1, h3, h4⟩ => ⟨hE, 2, sl, n, c, _, xs, S, .inr rfl, h1, h3, h4, by omega⟩

end Go.Proofs.YtbpgnnogpcppdaaDoor
