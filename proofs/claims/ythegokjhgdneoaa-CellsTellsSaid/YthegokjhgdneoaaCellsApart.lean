/-
  CellsApart of layer 3 returns true for every memory and every two raw things, and its arguments read as before. No condition.
-/
import Derived.Test.YthegokjhgdneoaaCopy
import Derived.Deep.CutRange
namespace Go.Proofs.Ythegokjhgdneoaa
open Go.ChangeShapes Go.WideShapes Go.ChangeAt Go.RowKit Go.Joins Go.Deep

/-- Two memories, apart from each other, laid since W. -/
structure Two (W w : World) (mb ab : Nat) (s : Value) (L : List (Int × Int)) (nb bb : Nat) (t : Value) (M : List (Int × Int)) : Prop where
  x : Own W w mb ab s L
  y : Own W w nb bb t M
  d1 : nb ≠ ab
  d2 : bb ≠ ab
  d3 : mb ≠ bb

theorem Two.step1 {W w w' : World} {mb ab nb bb : Nat} {s t : Value} {L M L' : List (Int × Int)} (h : Two W w mb ab s L nb bb t M) (m : Mem w' mb ab s L') (g : w.grownBy w' (some ab)) : Two W w' mb ab s L' nb bb t M :=
  ⟨h.x.next m g, ⟨h.y.mem.far g (by have := h.d1; simp; omega) (by have := h.d2; simp; omega), grown_new h.y.grown g h.x.ha, h.y.hm, h.y.ha⟩, h.d1, h.d2, h.d3⟩
theorem Two.step2 {W w w' : World} {mb ab nb bb : Nat} {s t : Value} {L M M' : List (Int × Int)} (h : Two W w mb ab s L nb bb t M) (m : Mem w' nb bb t M') (g : w.grownBy w' (some bb)) : Two W w' mb ab s L nb bb t M' :=
  ⟨⟨h.x.mem.far g (by have := h.d3; simp; omega) (by have := h.d2; simp; omega), grown_new h.x.grown g h.y.ha, h.x.hm, h.x.ha⟩, h.y.next m g, h.d1, h.d2, h.d3⟩
theorem Two.keep {W w w' : World} {mb ab nb bb : Nat} {s t : Value} {L M : List (Int × Int)} (h : Two W w mb ab s L nb bb t M) (g : w.grownBy w' none) : Two W w' mb ab s L nb bb t M :=
  ⟨h.x.keep g, h.y.keep g, h.d1, h.d2, h.d3⟩

theorem Own.begin {W w : World} {g n c : Nat} {L : List (Int × Int)} (hr : Row w g L) (hg : W.grownBy w none) (h1 : W.heap.size ≤ g) (h2 : g < w.heap.size) (h3 : L.length = n) : Own W (w.alloc (.cells #[.slice (some ⟨g, 0, none⟩) n c] 29)) w.heap.size g (.slice (some ⟨g, 0, none⟩) n c) L :=
  ⟨⟨by simp [go_sem], .inr ⟨c, by rw [h3]⟩, by omega, hr.far (World.grownBy_alloc _ _ none) (by simp)⟩, grown_trans hg (World.grownBy_alloc _ _ _), hg.size, h1⟩

/-- The first k cells of a slice of cells, as a list. -/
theorem list_of {W : World} {b o n : Nat} (h : ∀ i, i < n → ∃ x l, W.cell? ⟨b, o + i * 2, none⟩ = some (.int .u64 x) ∧ W.cell? ⟨b, o + i * 2 + 1, none⟩ = some (.int .i64 l) ∧ U64 x ∧ I64 l) : ∀ k, k ≤ n → ∃ L : List (Int × Int), L.length = k ∧ Src W b o L ∧ ∀ x ∈ L, U64 x.1 ∧ I64 x.2
  | 0, _ => ⟨[], rfl, fun k x hk => by simp at hk, fun x hx => by cases hx⟩
  | k + 1, hk => by
    obtain ⟨L, hL, hS, hB⟩ := list_of h k (by omega)
    obtain ⟨x, l, h1, h2, h3, h4⟩ := h k (by omega)
    refine ⟨L ++ [(x, l)], by simp [hL], fun j y hj => ?_, fun y hy => ?_⟩
    · by_cases e : j < k
      · rw [List.getElem?_append_left (by omega)] at hj
        exact hS j y hj
      · have hjk : j = k := by
          have := (List.getElem?_eq_some_iff.1 hj).1
          simp at this
          omega
        subst hjk
        rw [List.getElem?_append_right (by omega)] at hj
        simp [hL] at hj
        subst hj
        exact ⟨h1, h2⟩
    · simp at hy
      rcases hy with hy | rfl
      · exact hB y hy
      · exact ⟨h3, h4⟩

/-- A raw thing by value, opened. -/
theorem open_raw {H : Type} {enc : TypeId × Value → H} {W : World} {base : Nat} {v : Value} {d : DataW H} {p : List MemPlace} (hv : Value.okWide Try.prog W .any base 39 v) (h : DataW.Trod enc Try.prog W 0 (fun _ => true) true 39 v d p) :
    ∃ (N : Nat → Int) (z : Int), v = .agg #[.int .i64 (N 0), .int .i64 (N 1), .int .i64 (N 2), .int .u64 z] ∧ I64 (N 0) ∧ I64 (N 1) ∧ I64 (N 2) ∧ U64 z := by
  obtain ⟨cs, rfl, _⟩ := okWide_struct Try.underlying39 hv
  obtain ⟨fuel, hf⟩ := h
  obtain ⟨a, b, c, d', e, ra, rb, rc, rd⟩ := raw_cells hf
  refine ⟨fun j => if j = 0 then a else if j = 1 then b else c, d', ?_, by simpa using ra, by simpa using rb, by simpa using rc, rd⟩
  have e2 : cs.toList = [.int .i64 a, .int .i64 b, .int .i64 c, .int .u64 d'] := e
  obtain ⟨l⟩ := cs
  simp only at e2
  subst e2
  rfl

/-- Two raw things in boxes, as they were laid. -/
theorem boxes {W w : World} {a0 a1 a2 a3 b0 b1 b2 b3 : Int} (g : ((W.alloc (.cells #[.int .i64 a0, .int .i64 a1, .int .i64 a2, .int .u64 a3] 39)).alloc (.cells #[.int .i64 b0, .int .i64 b1, .int .i64 b2, .int .u64 b3] 39)).grownBy w none) :
    w.cell? ⟨W.heap.size, 0, none⟩ = some (.int .i64 a0) ∧ w.cell? ⟨W.heap.size, 1, none⟩ = some (.int .i64 a1) ∧ w.cell? ⟨W.heap.size, 2, none⟩ = some (.int .i64 a2) ∧ w.cell? ⟨W.heap.size, 3, none⟩ = some (.int .u64 a3) ∧
    w.cell? ⟨W.heap.size + 1, 0, none⟩ = some (.int .i64 b0) ∧ w.cell? ⟨W.heap.size + 1, 1, none⟩ = some (.int .i64 b1) ∧ w.cell? ⟨W.heap.size + 1, 2, none⟩ = some (.int .i64 b2) ∧ w.cell? ⟨W.heap.size + 1, 3, none⟩ = some (.int .u64 b3) :=
  ⟨g.cell (by simp [go_sem]) (by simp), g.cell (by simp [go_sem]) (by simp), g.cell (by simp [go_sem]) (by simp), g.cell (by simp [go_sem]) (by simp), g.cell (by simp [go_sem]) (by simp), g.cell (by simp [go_sem]) (by simp), g.cell (by simp [go_sem]) (by simp), g.cell (by simp [go_sem]) (by simp)⟩

/-- Memory's cells, as Same looks at them. -/
theorem Row.look {w : World} {ab : Nat} {L : List (Int × Int)} (h : Row w ab L) : ∀ k x, L[k]? = some x → ∃ b, some (⟨ab, 0, none⟩ : Addr) = some ⟨b, 0, none⟩ ∧ w.cell? ⟨b, k * 2, none⟩ = some (.int .u64 x.1) ∧ w.cell? ⟨b, k * 2 + 1, none⟩ = some (.int .i64 x.2) :=
  fun k x hk => ⟨ab, rfl, (h k x hk).1, (h k x hk).2.1⟩

end Go.Proofs.Ythegokjhgdneoaa

namespace Go.Proofs.Ythegokjhgdneoaa.cellsApart
open Go.ChangeShapes Go.WideShapes Go.ChangeAt Go.RowKit Go.Joins Go.Deep

set_option maxRecDepth 100000 in
set_option maxHeartbeats 4000000 in
theorem walk_many (b o n c : Nat) (L : List (Int × Int)) (N M : Nat → Int) (y z : Int) (W : World) (hL : L.length = min n 60) (hn : 2 ≤ n) (hc : n ≤ c) (hsrc : Src W b o L)
    (r0 : I64 (N 0)) (r1 : I64 (N 1)) (r2 : I64 (N 2)) (s0 : I64 (M 0)) (s1 : I64 (M 1)) (s2 : I64 (M 2)) :
    Calls Try.prog 6 #[.slice (some ⟨b, o, none⟩) n c, .agg #[.int .i64 (N 0), .int .i64 (N 1), .int .i64 (N 2), .int .u64 y], .agg #[.int .i64 (M 0), .int .i64 (M 1), .int .i64 (M 2), .int .u64 z]] W
      fun e w' => e = .returned (.bool true) ∧ W.grownBy w' none := by
  unfold I64 at *
  obtain ⟨m, hm⟩ : ∃ m, RowKit.Hid (min n 60 = m) := ⟨_, Lib.hid rfl⟩
  rw [hm.out] at hL
  have hm1 : 2 ≤ m := by have := hm.out; omega
  have hm2 : m ≤ 60 := by have := hm.out; omega
  have hm3 : m ≤ n := by have := hm.out; omega
  have hmin : min (n : Int) 60 = m := by have := hm.out; omega
  have HL := Lib.hid hL
  have HS := Lib.hid hsrc
  clear hL hsrc
  go_enter Try.func6, Try.ntmps6
  go_wp2_with (fail)
  refine (awake_any _).mono ?_
  rintro e w1 ⟨rfl, hg⟩
  have hg0 : RowKit.Hid (W.grownBy w1 none) := Lib.hid (grown_trans (grown_trans (World.grownBy_alloc _ _ none) (World.grownBy_alloc _ _ none)) hg)
  have HW : RowKit.Hid (W.grownBy ((W.alloc (.cells #[.int .i64 (N 0), .int .i64 (N 1), .int .i64 (N 2), .int .u64 y] 39)).alloc (.cells #[.int .i64 (M 0), .int .i64 (M 1), .int .i64 (M 2), .int .u64 z] 39)) none) := Lib.hid (grown_trans (World.grownBy_alloc _ _ none) (World.grownBy_alloc _ _ none))
  have hsz := hg.size
  obtain ⟨q0, q1, q2, q3, p0, p1, p2, p3⟩ := boxes hg
  go_upto_region 2 with (fail)
  go_cut [8] from 22 to 24 (fun s8 wx => s8 = .int .i64 m ∧ w1 = wx)
  case first =>
    go_wp2
    all_goals
      go_meet
      case rel => exact ⟨by congr 1; omega, rfl⟩
  case rest =>
    obtain ⟨rfl, rfl⟩ := hcut
    have a0 := pick_bd (N 2) m (by omega)
    have a1 := pick_bd (M 2) (m - 1) (by omega)
    obtain ⟨A, hA⟩ : ∃ A : Nat, RowKit.Hid (pick (N 2) m = A) := ⟨(pick (N 2) m).toNat, Lib.hid (by omega)⟩
    obtain ⟨B0, hB0⟩ : ∃ B0 : Int, RowKit.Hid (pick (M 2) (m - 1) = B0) := ⟨_, Lib.hid rfl⟩
    rw [hA.out] at a0
    rw [hB0.out] at a1
    have t0 : 0 ≤ ((A : Int) + 1 + B0) % m := Int.emod_nonneg _ (by omega)
    have t1 : ((A : Int) + 1 + B0) % m < m := Int.emod_lt_of_pos _ (by omega)
    obtain ⟨T, hT⟩ : ∃ T : Nat, RowKit.Hid (((A : Int) + 1 + B0) % m = T) := ⟨(((A : Int) + 1 + B0) % m).toNat, Lib.hid (by omega)⟩
    have hne : A ≠ T := by
      have e := hT.out
      intro h
      have h2 : ((A : Int) + 1 + B0) % m = A := by rw [e, h]
      by_cases h3 : (A : Int) + 1 + B0 < m
      · rw [Int.emod_eq_of_lt (by omega) h3] at h2
        omega
      · have h4 : ((A : Int) + 1 + B0) % m = (A : Int) + 1 + B0 - m := by
          rw [← Int.sub_emod_right, Int.emod_eq_of_lt (by omega) (by omega)]
        omega
    rw [hT.out] at t0 t1
    have hT' := hT.out
    have hslice : (0 : Int) ≤ m := by omega
    have hslice2 : (m : Int) ≤ c := by omega
    have HS1 := Lib.hid ((HS.out.far hg0.out (by simp)))
    go_wp2_with (first
      | (go_at_call 9; with_reducible refine (pick_is (N 2) m A _ hA.out (by omega) (by omega) (by omega) (by omega)).mono ?_; rintro e w' ⟨rfl, rfl⟩)
      | (go_at_call 9; with_reducible refine (pick_is (M 2) (m - 1) B0 _ hB0.out (by omega) (by omega) (by omega) (by omega)).mono ?_; rintro e w' ⟨rfl, rfl⟩)
      | (at_builtin; refine append_cells _ rfl _ _ rfl (by rfl) b o m c (by rfl) L HL.out HS1.out (by omega) (by omega) ?_; intro cap w' hr hg2 hl))
    have hl2 : w1.heap.size < w'.heap.size := hl
    have hx := Own.begin (c := cap) hr (grown_trans hg hg2) hsz hl HL.out
    refine (own_some _ _ _ _ L _ HL.out (hr.src.far (World.grownBy_alloc _ _ none) (by simp)) (by omega) (by omega)).mono ?_
    rintro e w2 ⟨cap2, rfl, hr2, hg3, hl3⟩
    have hx2 := (hx.keep hg3).alloc (.cells #[.slice (some ⟨(w'.alloc (.cells #[.slice (some ⟨w1.heap.size, 0, none⟩) m cap] 29)).heap.size + 2, 0, none⟩) m cap2] 29)
    have hsz2 := hg3.size
    rw [World.size_alloc] at hl3 hr2 hsz2
    have hy := Own.begin (c := cap2) hr2 (hx.keep hg3).grown (by omega) hl3 HL.out
    rw [World.size_alloc] at hx2
    have hD : Two _ _ _ _ _ L _ _ _ L := ⟨hx2, hy, by omega, by omega, by omega⟩
    clear hx hx2 hy hr hr2
    have hAm : A < L.length := by rw [HL.out]; omega
    have hTm : T < L.length := by rw [HL.out]; omega
    obtain ⟨ca, hca⟩ : ∃ ca, RowKit.Hid (L[A]? = some ca) := ⟨L[A], Lib.hid (List.getElem?_eq_getElem hAm)⟩
    obtain ⟨ct, hct⟩ : ∃ ct, RowKit.Hid (L[T]? = some ct) := ⟨L[T], Lib.hid (List.getElem?_eq_getElem hTm)⟩
    obtain ⟨cx, cl⟩ := ca
    obtain ⟨tx, tl⟩ := ct
    clear q0 q1 q2 q3 p0 p1 p2 p3 hg hg2 hT' hmin
    obtain ⟨q0, q1, q2, q3, p0, p1, p2, p3⟩ := boxes hD.x.grown
    have HD := Lib.hid hD
    clear hD
    go_wp2_with (fail)
    refine (one_any _ _ _ _ N y A cx cl _ HD.out.x.mem hca.out r0 r1).mono ?_
    rintro e w3 ⟨rfl, m3, g3⟩
    have hD := HD.out.step1 m3 g3
    clear HD m3 g3 q0 q1 q2 q3 p0 p1 p2 p3
    obtain ⟨q0, q1, q2, q3, p0, p1, p2, p3⟩ := boxes hD.x.grown
    have HD := Lib.hid hD
    clear hD
    go_wp2_with (fail)
    refine (one_any _ _ _ _ M z T tx tl _ HD.out.x.mem (by rw [List.getElem?_set_ne hne]; exact hct.out) s0 s1).mono ?_
    rintro e w4 ⟨rfl, m3, g3⟩
    have hD := HD.out.step1 m3 g3
    clear HD m3 g3 q0 q1 q2 q3 p0 p1 p2 p3
    obtain ⟨q0, q1, q2, q3, p0, p1, p2, p3⟩ := boxes hD.x.grown
    have HD := Lib.hid hD
    clear hD
    go_wp2_with (fail)
    refine (one_any _ _ _ _ M z T tx tl _ HD.out.y.mem hct.out s0 s1).mono ?_
    rintro e w5 ⟨rfl, m3, g3⟩
    have hD := HD.out.step2 m3 g3
    clear HD m3 g3 q0 q1 q2 q3 p0 p1 p2 p3
    obtain ⟨q0, q1, q2, q3, p0, p1, p2, p3⟩ := boxes hD.x.grown
    have HD := Lib.hid hD
    clear hD
    go_wp2_with (fail)
    refine (one_any _ _ _ _ N y A cx cl _ HD.out.y.mem (by rw [List.getElem?_set_ne hne.symm]; exact hca.out) r0 r1).mono ?_
    rintro e w6 ⟨rfl, m3, g3⟩
    have hD := HD.out.step2 m3 g3
    clear HD m3 g3 q0 q1 q2 q3 p0 p1 p2 p3
    rw [List.set_comm _ _ hne] at hD
    have hm1 := hD.x.mem.m
    have hm2 := hD.y.mem.m
    have HD := Lib.hid hD
    clear hD
    go_wp2_with (first
      | (go_at_call 12; (with_reducible refine (same_yes _ _ _ _ _ _ _ (by rw [List.length_set, List.length_set]; exact HL.out) (by omega) HD.out.x.mem.row.look HD.out.y.mem.row.look).mono ?_); rintro e w7 ⟨rfl, g7⟩; have hm3 := g7.cell hm1 (by simp); have HG := Lib.hid (grown_trans HW.out (grown_trans HD.out.x.grown g7))))
    go_ret
    exact ⟨rfl, HG.out⟩

set_option maxRecDepth 100000 in
set_option maxHeartbeats 4000000 in
theorem walk_few (sl : Option Addr) (n c : Nat) (N M : Nat → Int) (y z : Int) (W : World) (hn : n < 2) :
    Calls Try.prog 6 #[.slice sl n c, .agg #[.int .i64 (N 0), .int .i64 (N 1), .int .i64 (N 2), .int .u64 y], .agg #[.int .i64 (M 0), .int .i64 (M 1), .int .i64 (M 2), .int .u64 z]] W
      fun e w' => e = .returned (.bool true) ∧ W.grownBy w' none := by
  have h60 : ¬ (60 : Int) < n := by omega
  have h2 : (n : Int) < 2 := by omega
  go_enter Try.func6, Try.ntmps6
  go_wp2_with (fail)
  refine (awake_any _).mono ?_
  rintro e w1 ⟨rfl, hg⟩
  have HG := Lib.hid (grown_trans (grown_trans (World.grownBy_alloc _ _ none) (World.grownBy_alloc _ _ none)) hg)
  clear hg
  go_wp2
  go_ret
  exact ⟨rfl, HG.out⟩

set_option maxRecDepth 100000 in
theorem lifted (os : Os) (started : os.Started) (H : Type) (enc : TypeId × Value → H) :
    ReturnsInHanded {} Try.checked os 6 .any (Rows.cellsApartSpec.pre6 enc Try.prog Try.f6 Rows.cellsApartRow.domain false) (Rows.cellsApartSpec.post enc Try.prog Try.f6 false true false false) := by
  refine returnsInHanded_of_change (C := Try.checked) own started (by kernel_rfl) Try.func6
    (ChangeSpec.witness6 (enc := enc) (C := Try.checked) false ⟨#[], #[.slice none 0 0, .agg #[.int .i64 0, .int .i64 0, .int .i64 0, .int .u64 0], .agg #[.int .i64 0, .int .i64 0, .int .i64 0, .int .u64 0]], []⟩ 8 (by kernel_rfl) (by kernel_rfl) (by kernel_rfl) (by kernel_rfl)) ?_
  intro W base args ds gs before hval0 hW hcnd _
  have hval : ∀ (j : Nat) t v, Try.f6.params[j]? = some t → args[j]? = some v → Value.okWide Try.prog W .any base t v := hval0
  have hW' := hW
  obtain ⟨p, q, hA0, hV, rfl, hfz, hnd⟩ := hW
  have hA : DataW.TrodAll enc Try.prog W 0 (fun _ => true) true Try.f6.params.toList args.toList ds p := hA0
  rw [Try.params6] at hA hval
  obtain ⟨v0, vs0, d0, ds0, p0, q0, hargs, rfl, rfl, h0, r0⟩ := trodAll_cons hA
  obtain ⟨v1, vs1, d1, ds1, p1, q1, rfl, rfl, rfl, h1, r1⟩ := trodAll_cons r0
  obtain ⟨v2, vs2, d2, ds2, p2, q2, rfl, rfl, rfl, h2, r2⟩ := trodAll_cons r1
  obtain ⟨rfl, rfl, rfl⟩ := trodAll_nil r2
  obtain rfl : args = #[v0, v1, v2] := by cases args; simp_all
  obtain ⟨sl, n, c, rfl, hc, _, hsl, hZ⟩ := open_cells (hval 0 22 v0 rfl rfl) h0
  obtain ⟨N, y, rfl, n0, n1, n2, _⟩ := open_raw (hval 1 39 v1 rfl rfl) h1
  obtain ⟨M, z, rfl, s0, s1, s2, _⟩ := open_raw (hval 2 39 v2 rfl rfl) h2
  have key : Calls Try.prog 6 #[.slice sl n c, .agg #[.int .i64 (N 0), .int .i64 (N 1), .int .i64 (N 2), .int .u64 y], .agg #[.int .i64 (M 0), .int .i64 (M 1), .int .i64 (M 2), .int .u64 z]] W fun e w' => e = .returned (.bool true) ∧ W.grownBy w' none := by
    by_cases hn : n < 2
    · exact walk_few sl n c N M y z W hn
    · rcases hsl with h | ⟨b, o, rfl⟩
      · omega
      · obtain ⟨L, hL, hS, _⟩ := list_of (b := b) (o := o) (n := n) (fun i hi => by obtain ⟨b2, o2, e, hx⟩ := hZ i hi; cases e; exact hx) (min n 60) (by omega)
        exact walk_many b o n c L N M y z W hL (by omega) hc hS n0 n1 n2 s0 s1 s2
  refine (key).mono fun e W' ⟨he, hg⟩ => ?_
  subst he
  exact ⟨_, rfl, told hW' rfl rfl rfl (by kernel_rfl) hg⟩

theorem over : Rows.cellsApartRow.holds Try.pinned (OpenSpec.ofChange Rows.cellsApartSpec) :=
  OpenClaim.holds_of_wide 6 Try.f6 rfl rfl rfl rfl rfl rfl rfl ⟨rfl, rfl, rfl, rfl, rfl⟩ rfl rfl rfl rfl rfl (by kernel_rfl) Try.func6 (by kernel_rfl)
    (of_decide_eq_true (by kernel_rfl)) (by unfold Func.isWrapper; first | (rw [if_pos (by decide +kernel)]; kernel_rfl) | (rw [if_neg (by decide +kernel)]; exact ⟨rfl, rfl⟩))
    (fun os started H enc _ => lifted os started H enc)

end Go.Proofs.Ythegokjhgdneoaa.cellsApart

namespace Go.Proofs.Ythegokjhgdneoaa
theorem cellsApart_holds : Rows.CellsApartSaid := cellsApart.over
end Go.Proofs.Ythegokjhgdneoaa
