/-
  The law TreapOne, walked. Conditions: the package's table lies; the integers' bounds; the raw numbers and links are there.
-/
import Derived.Test.YtnmeakkehonnmaaDoorTrpAwake
import Derived.Test.YtnmeakkehonnmaaDoorTrpKeys
import Derived.Test.YtnmeakkehonnmaaDoorTrpGood
namespace Go.Proofs.YtnmeakkehonnmaaDoor.Trp
open Go.RowKit (Below intOf)

theorem seg_whole {α : Type} {l : List α} {n : Nat} (h : l.length = n) : seg l 0 n = l := by unfold seg; rw [← h]; simp
theorem good_right {l : List Int} {L : List Pr} {n : Nat} (hl : l.length = n) (hL : L.length = n) (hn : ¬ 256 < l.length) (hr : Rising l) (z : Int) : goodS l L z 0 n = rightS l z L := by
  unfold goodS rightS
  rw [seg_whole hl, seg_whole hL, build_ok hn hr]
  refine decide_eq_decide.2 ⟨fun h => ?_, fun h => ?_⟩
  · have h1 := congrArg Prod.fst h; have h2 := congrArg Prod.snd h
    simp only at h1 h2
    rw [← h1, ← h2]
  · simp only [Prod.mk.injEq] at h
    exact Prod.ext h.1.symm h.2.1.symm

theorem LS.set {w : World} {g n c : Nat} {L : List Pr} (h : LS w (some ⟨g, 0, none⟩) n c L) {k : Nat} (hk : k < n) (y : Pr) (hy : Ip y) :
    LS ((w.setCell ⟨g, k * 2, none⟩ (.int .i64 y.1)).setCell ⟨g, k * 2 + 1, none⟩ (.int .i64 y.2)) (some ⟨g, 0, none⟩) n c (L.set k y) := by
  have get : ∀ j x, L[j]? = some x → Ip x ∧ w.cell? ⟨g, j * 2, none⟩ = some (.int .i64 x.1) ∧ w.cell? ⟨g, j * 2 + 1, none⟩ = some (.int .i64 x.2) := fun j x hx => by
    obtain ⟨h1, b, o, e, h2, h3⟩ := h.2.2.2.2 j x hx
    cases e
    rw [Nat.zero_add] at h2 h3
    exact ⟨h1, h2, h3⟩
  have hkl : k < L.length := by rw [h.len]; exact hk
  obtain ⟨_, a1, a2⟩ := get k _ (List.getElem?_eq_getElem hkl)
  refine ⟨by rw [List.length_set]; exact h.len, h.le, h.lc, h.cle, fun j x hx => ?_⟩
  by_cases e : k = j
  · subst e
    rw [List.getElem?_set_self hkl] at hx
    cases hx
    refine ⟨hy, g, 0, rfl, ?_, ?_⟩
    · rw [Nat.zero_add, World.cell?_setCell_other _ _ _ _ (fun he => by have := congrArg Addr.off he; simp only at this; omega)]
      exact World.cell?_setCell_same' _ _ _ (by rw [a1]; rfl)
    · rw [Nat.zero_add]
      exact World.cell?_setCell_same' _ _ _ (by rw [World.cell?_setCell_other _ _ _ _ (fun he => by have := congrArg Addr.off he; simp only at this; omega), a2]; rfl)
  · rw [List.getElem?_set_ne e] at hx
    obtain ⟨h1, h2, h3⟩ := get j x hx
    refine ⟨h1, g, 0, rfl, ?_, ?_⟩
    · rw [Nat.zero_add, World.cell?_setCell_other _ _ _ _ (fun he => by have := congrArg Addr.off he; simp only at this; omega), World.cell?_setCell_other _ _ _ _ (fun he => by have := congrArg Addr.off he; simp only at this; omega)]; exact h2
    · rw [Nat.zero_add, World.cell?_setCell_other _ _ _ _ (fun he => by have := congrArg Addr.off he; simp only at this; omega), World.cell?_setCell_other _ _ _ _ (fun he => by have := congrArg Addr.off he; simp only at this; omega)]; exact h3
theorem set_same {T : List Pr} {k : Nat} {x y : Pr} (hx : T[k]? = some x) : (T = T.set k y) ↔ y = x := by
  have hl := (List.getElem?_eq_some_iff.1 hx).1
  constructor
  · intro h
    have : (T.set k y)[k]? = some y := List.getElem?_set_self hl
    rw [← h, hx] at this
    exact (Option.some.inj this).symm
  · rintro rfl
    apply List.ext_getElem?
    intro j
    by_cases e : k = j
    · subst e; rw [List.getElem?_set_self hl, hx]
    · rw [List.getElem?_set_ne e]

set_option maxHeartbeats 8000000 in
set_option maxRecDepth 100000 in
theorem one_walk (s : Option Addr) (n c : Nat) (raw : List Int) (root : Int) (sl : Option Addr) (nl cl : Nat) (LL : List Pr) (turn other : Int) (W : World) (hTab : Tab W) (hR : NSL W s n c raw) (hroot : I64 root) (hLL : LSL W sl nl cl LL) (hturn : I64 turn) (hother : I64 other) :
    Calls Tryd.prog 4 #[.slice s n c, .int .i64 root, .slice sl nl cl, .int .i64 turn, .int .i64 other] W fun e w' => e = .returned (.bool true) ∧ Below W.heap.size W w' := by
  have HT := Lib.hid hTab
  have HR := Lib.hid hR
  have HLL := Lib.hid hLL
  have hnl : (nl : Int) ≤ 9223372036854775807 := by have := hLL.2.1; have := hLL.2.2.1; omega
  clear hTab hR hLL
  go_enter Tryd.func4, Tryd.ntmps4
  go_wp2_with (fail)
  refine (awake_any W HT.out).mono ?_
  rintro e w1 ⟨rfl, hE⟩
  go_wp2_with (fail)
  refine (keys_any s n c raw w1 (HR.out.ext hE)).mono ?_
  rintro e w2 ⟨sk, m, ck, rfl, l, hW, hm, hRi, hE2⟩
  replace hE := hE.trans hE2
  clear hE2 HR
  have HRi := Lib.hid hRi
  have HAp := Lib.hid (apart_of hRi hW.range)
  clear hRi
  go_wp2_with (fail)
  have c1 := build_any sk m ck l w2 (tab_ext HT.out hE) hW (by omega)
  rw [build_ok (by rw [hW.len]; omega) HRi.out] at c1
  refine c1.mono ?_
  clear c1
  rintro e w3 ⟨hE2, sM, mM, cM, rfl, hM⟩
  obtain rfl : mM = m := by rw [← hM.len]; simp only; rw [tree_len _ _ _ rfl, hW.len]
  replace hW := hW.ext hE2
  replace hE := hE.trans hE2
  clear hE2
  simp only at hM ⊢
  obtain ⟨r, hr⟩ : ∃ r, (tree l 0).1 = r := ⟨_, rfl⟩
  obtain ⟨T2, hT2⟩ : ∃ T2, (tree l 0).2 = T2 := ⟨_, rfl⟩
  have hrb : 0 ≤ r ∧ r ≤ 20 := by rw [← hr]; have := tree_root_bd l 0; rw [hW.len] at this; omega
  have HGR : RowKit.Hid (∀ (L : List Pr) z, L.length = mM → goodS l L z 0 mM = rightS l z L) := Lib.hid (fun L z hL => good_right hW.len hL (by rw [hW.len]; omega) HRi.out z)
  have HRR : RowKit.Hid (∀ (L : List Pr) z, rightS l z L = decide (r = z ∧ T2 = L)) := Lib.hid (fun L z => by
    unfold rightS
    rw [build_ok (by rw [hW.len]; omega) HRi.out, ← hr, ← hT2]
    refine decide_eq_decide.2 ?_
    simp)
  rw [hT2] at hM
  rw [hr]
  clear hr hT2
  go_wp2_with (fail)
  have c1 := good_any mM sk mM ck l sM cM T2 r 0 mM w3 hW hM (by unfold I64; omega) (Nat.le_refl _) (Nat.zero_le _) (Nat.sub_zero _) HAp.out
  rw [HGR.out T2 r hM.len, HRR.out T2 r, decide_eq_true ⟨rfl, rfl⟩, show ((0 : Nat) : Int) + 1 = 1 from rfl] at c1
  refine c1.mono ?_
  clear c1
  rintro e w4 ⟨rfl, hE2⟩
  replace hW := hW.ext hE2
  replace hM := hM.ext hE2
  replace hE := hE.trans hE2
  clear hE2
  go_wp2_with (fail)
  have c1 := right_any sk mM ck l r sM mM cM T2 w4 (tab_ext HT.out hE) hW hM
  rw [HRR.out T2 r, decide_eq_true ⟨rfl, rfl⟩] at c1
  refine c1.mono ?_
  clear c1
  rintro e w5 ⟨rfl, hE2⟩
  replace hW := hW.ext hE2
  replace hM := hM.ext hE2
  replace hE := hE.trans hE2
  clear hE2
  go_wp2_with (fail)
  go_loopw [17, 18] (fun v iv wr => ∃ (i co : Nat) (so : Option Addr) (ys : List Pr), i ≤ mM ∧ iv = .int .i64 i ∧ v = .slice so i co ∧ wr.ownsRow w5.heap.size 42 2 (.slice so i co) i (flatLS ys) ∧ ys.length = i ∧ RowKit.Hid (∀ y ∈ ys, Ip y) ∧ Ext w5 wr) (fun _ i _ => mM - (intOf i).toNat)
  case atStart => exact ⟨0, 0, none, [], by omega, rfl, rfl, World.ownsRow_nil _ _ _ _, rfl, Lib.hid (fun y hy => by cases hy), Ext.refl w5⟩
  case round =>
    obtain ⟨i, co, so, ys, hi, rfl, rfl, hown, hlen, hIp, hE2⟩ := hrel
    by_cases hlt : i < mM
    · have hi1 : (i : Int) < mM := by omega
      by_cases hin : i < nl
      · have hi2 : (i : Int) < nl := by omega
        have hd2 : decide ((i : Int) < nl) = true := decide_eq_true hi2
        obtain ⟨⟨y1, y2⟩, hy, uy, bl, ol, rfl, cy1, cy2⟩ := (HLL.out.ext (hE.trans hE2)).get (k := i) hin
        clear hy
        have kP1 := Lib.hid (fun W => pick_any y1 ((mM : Int) + 1) W uy.1.1 uy.1.2 (by omega) (by omega))
        have kP2 := Lib.hid (fun W => pick_any y2 ((mM : Int) + 1) W uy.2.1 uy.2.2 (by omega) (by omega))
        have bP1 := pick_bd (c := y1) (n := (mM : Int) + 1) (by omega)
        have bP2 := pick_bd (c := y2) (n := (mM : Int) + 1) (by omega)
        obtain ⟨P1, eP1⟩ : ∃ P1, pick y1 ((mM : Int) + 1) = P1 := ⟨_, rfl⟩
        obtain ⟨P2, eP2⟩ : ∃ P2, pick y2 ((mM : Int) + 1) = P2 := ⟨_, rfl⟩
        rw [eP1] at kP1 bP1
        rw [eP2] at kP2 bP2
        clear eP1 eP2
        have hwn : IntKind.i64.wrap ((mM : Int) + 1) = (mM : Int) + 1 := IntWalk.i64_in _ (by omega)
        go_wp2_with (fail)
        have d1 := (Ext.new wr (.cells #[.int .i64 0, .int .i64 0] 42)).cell cy1
        have d2 := (Ext.new wr (.cells #[.int .i64 0, .int .i64 0] 42)).cell cy2
        go_region_held3 (fun w' => (w'.cell? ⟨bl, ol + i * 2, none⟩ = some (.int .i64 y1) ∧ w'.cell? ⟨bl, ol + i * 2 + 1, none⟩ = some (.int .i64 y2)))
          (first
            | exact ⟨d1, d2⟩
            | go_keep)
          (first
            | (go_at_call 24; (with_reducible refine (kP1.out _).mono ?_); rintro e w' ⟨rfl, rfl⟩)
            | (go_at_call 24; (with_reducible refine (kP2.out _).mono ?_); rintro e w' ⟨rfl, rfl⟩))
        have hownx : (wr.alloc (.cells #[.int .i64 P1, .int .i64 P2] 42)).drew.ownsRow w5.heap.size 42 2 (.slice so i co) i (flatLS ys) := (hown.alloc _).drew
        have hEx : Ext w5 (wr.alloc (.cells #[.int .i64 P1, .int .i64 P2] 42)).drew := (hE2.alloc _).drew
        have b1 : (wr.alloc (.cells #[.int .i64 P1, .int .i64 P2] 42)).drew.cell? ⟨wr.heap.size, 0, none⟩ = some (.int .i64 P1) := by show (wr.alloc (.cells #[.int .i64 P1, .int .i64 P2] 42)).cell? _ = _; unfold World.cell?; rw [World.alloc_heap_new]; rfl
        have b2 : (wr.alloc (.cells #[.int .i64 P1, .int .i64 P2] 42)).drew.cell? ⟨wr.heap.size, 1, none⟩ = some (.int .i64 P2) := by show (wr.alloc (.cells #[.int .i64 P1, .int .i64 P2] 42)).cell? _ = _; unfold World.cell?; rw [World.alloc_heap_new]; rfl
        obtain ⟨bx, hbx⟩ : ∃ bx, wr.heap.size = bx := ⟨_, rfl⟩
        rw [hbx] at b1 b2 ⊢
        generalize (wr.alloc (.cells #[.int .i64 P1, .int .i64 P2] 42)).drew = wx at hownx hEx b1 b2 ⊢
        clear hbx d1 d2 cy1 cy2 kP1 kP2
        have hlit := LS.lit wx (P1, P2) ⟨by unfold I64; omega, by unfold I64; omega⟩
        obtain ⟨so', co', w7, R1, o2, g1⟩ := appLS (hownx.alloc _) hlit (i + 1) rfl (by omega) (by have := hEx.size; simp; omega)
        have x1 : Ext w5 w7 := Ext.grown (Ext.alloc hEx _) g1 (own_ge hownx)
        have hIp2 : RowKit.Hid (∀ y ∈ ys ++ [(P1, P2)], Ip y) := Lib.hid (fun y hy => by
          rcases List.mem_append.1 hy with hy | hy
          · exact hIp.out y hy
          · rw [List.mem_singleton.1 hy]; exact ⟨by unfold I64; simp only; omega, by unfold I64; simp only; omega⟩)
        go_wp2_with (at_builtin; refine Lib.wpList_append_run _ rfl _ _ _ _ rfl _ _ rfl rfl _ _ R1.out ?_)
        go_roundw
        case rel => exact ⟨i + 1, co', so', _, by omega, by go_num, rfl, o2, by simp [hlen], hIp2, x1⟩
        case measure => simp [intOf]; omega
      · have hd2 : decide ((i : Int) < nl) = false := decide_eq_false (by omega)
        have hd3 : decide (i < nl) = false := decide_eq_false hin
        have hownx : (wr.alloc (.cells #[.int .i64 0, .int .i64 0] 42)).ownsRow w5.heap.size 42 2 (.slice so i co) i (flatLS ys) := hown.alloc _
        have hEx : Ext w5 (wr.alloc (.cells #[.int .i64 0, .int .i64 0] 42)) := hE2.alloc _
        have hlit := LS.lit (wr.alloc (.cells #[.int .i64 0, .int .i64 0] 42)) (0, 0) ⟨by unfold I64; omega, by unfold I64; omega⟩
        have hsz : (wr.alloc (.cells #[.int .i64 0, .int .i64 0] 42)).heap.size = wr.heap.size + 1 := by simp
        rw [hsz] at hlit
        obtain ⟨so', co', w7, R1, o2, g1⟩ := appLS (hownx.alloc _) hlit (i + 1) rfl (by omega) (by have := hE2.size; simp; omega)
        have x1 : Ext w5 w7 := Ext.grown (Ext.alloc hEx _) g1 (own_ge hownx)
        have hIp2 : RowKit.Hid (∀ y ∈ ys ++ [((0, 0) : Pr)], Ip y) := Lib.hid (fun y hy => by
          rcases List.mem_append.1 hy with hy | hy
          · exact hIp.out y hy
          · rw [List.mem_singleton.1 hy]; exact ⟨by unfold I64; simp only; omega, by unfold I64; simp only; omega⟩)
        clear hsz hlit hownx hEx
        go_wp2_with (at_builtin; refine Lib.wpList_append_run _ rfl _ _ _ _ rfl _ _ rfl rfl _ _ R1.out ?_)
        go_roundw
        case rel => exact ⟨i + 1, co', so', _, by omega, by go_num, rfl, o2, by simp [hlen], hIp2, x1⟩
        case measure => simp [intOf]; omega
    · obtain rfl : i = mM := by omega
      have hLy : LS wr so i co ys := LS.of_own hown hlen (by omega) hIp.out
      replace hE := hE.trans hE2
      replace hW := hW.ext hE2
      replace hM := hM.ext hE2
      have hb := pick_bd (c := root) (n := (i : Int) + 1) (by omega)
      have kP := pick_any root ((i : Int) + 1) wr hroot.1 hroot.2 (by omega) (by omega)
      obtain ⟨z, hz⟩ : ∃ z, pick root ((i : Int) + 1) = z := ⟨_, rfl⟩
      rw [hz] at hb kP
      have hwn : IntKind.i64.wrap ((i : Int) + 1) = (i : Int) + 1 := IntWalk.i64_in _ (by omega)
      clear hz hown hIp hE2 hlen HLL
      go_wp2_with (fail)
      refine kP.mono ?_
      clear kP
      rintro e w' ⟨rfl, rfl⟩
      go_wp2_with (fail)
      have c1 := right_any sk i ck l z so i co ys wr (tab_ext HT.out hE) hW hLy
      obtain ⟨g, hg⟩ : ∃ g, RowKit.Hid (rightS l z ys = g) := ⟨_, Lib.hid rfl⟩
      rw [hg.out] at c1
      refine c1.mono ?_
      clear c1
      rintro e w6 ⟨rfl, hE2⟩
      replace hW := hW.ext hE2
      replace hM := hM.ext hE2
      replace hLy := hLy.ext hE2
      replace hE := hE.trans hE2
      clear hE2
      go_wp2_with (fail)
      have c1 := good_any i sk i ck l so co ys z 0 i w6 hW hLy (by unfold I64; omega) (Nat.le_refl _) (Nat.zero_le _) (Nat.sub_zero _) HAp.out
      rw [HGR.out ys z hLy.len, hg.out, show ((0 : Nat) : Int) + 1 = 1 from rfl] at c1
      refine c1.mono ?_
      clear c1
      rintro e w7 ⟨rfl, hE2⟩
      replace hW := hW.ext hE2
      replace hM := hM.ext hE2
      replace hE := hE.trans hE2
      clear hE2 hLy
      go_wp2_with (fail)
      have c1 := right_any sk i ck l z sM i cM T2 w7 (tab_ext HT.out hE) hW hM
      obtain ⟨g2, hg2, hg3⟩ : ∃ g2, RowKit.Hid (rightS l z T2 = g2) ∧ (z == r) = g2 := ⟨_, Lib.hid rfl, by
        rw [HRR.out T2 z]
        by_cases h : z = r
        · subst h; simp
        · rw [beq_eq_false_iff_ne.2 h, decide_eq_false (fun e => h e.1.symm)]⟩
      rw [hg2.out] at c1
      refine c1.mono ?_
      clear c1
      rintro e w8 ⟨rfl, hE2⟩
      replace hW := hW.ext hE2
      replace hM := hM.ext hE2
      replace hE := hE.trans hE2
      clear hE2
      by_cases hi0 : i = 0
      · subst hi0
        go_wp2_with (fail)
        go_ret
        exact ⟨rfl, hE⟩
      · have hib : ((i : Int) == 0) = false := by rw [beq_eq_false_iff_ne]; omega
        go_wp2_with (fail)
        have hb2 := pick_bd (c := turn) (n := (i : Int)) (by omega)
        have kT := pick_any turn (i : Int) w8 hturn.1 hturn.2 (by omega) (by omega)
        obtain ⟨k, hk⟩ : ∃ k : Nat, pick turn (i : Int) = (k : Int) := ⟨(pick turn (i : Int)).toNat, by omega⟩
        rw [hk] at hb2 kT
        have hki : k < i := by omega
        refine kT.mono ?_
        clear kT hk
        rintro e w' ⟨rfl, rfl⟩
        obtain ⟨⟨x1, x2⟩, hx, ux, bM, oM, rfl, cx1, cx2⟩ := hM.get (k := k) hki
        have HX := Lib.hid hx
        clear hx
        obtain ⟨wq, hwq⟩ : ∃ wq, wq = w8.alloc (.cells #[.int .i64 x1, .int .i64 x2] 42) := ⟨_, rfl⟩
        have hEq : Ext w8 wq := by rw [hwq]; exact Ext.new _ _
        have bw1 : wq.cell? ⟨w8.heap.size, 0, none⟩ = some (.int .i64 x1) := by rw [hwq]; unfold World.cell?; rw [World.alloc_heap_new]; rfl
        have bw2 : wq.cell? ⟨w8.heap.size, 1, none⟩ = some (.int .i64 x2) := by rw [hwq]; unfold World.cell?; rw [World.alloc_heap_new]; rfl
        obtain ⟨sA, cA, wA, RA, oA, gA⟩ := appLS (ys := []) (World.ownsRow_nil wq wq.heap.size _ _) (hM.ext hEq) i (Nat.zero_add _) (by omega) (Nat.le_refl _)
        have xA : Ext wq wA := Ext.grown (Ext.refl wq) gA (fun k e => by simp [Value.ownBlock] at e)
        have hLA : LS wA sA i cA T2 := LS.of_own (by simpa using oA) hM.len (by omega) hM.range
        obtain ⟨g5, hg5, hwg, hfr⟩ : ∃ g5, sA = some ⟨g5, 0, none⟩ ∧ wq.heap.size ≤ g5 ∧ ∀ j, wA.frozen? ⟨g5, j, none⟩ = false := by
          rcases oA.2 with ⟨_, h⟩ | ⟨g5, cap, cur, e, h1, h2, _⟩
          · exact absurd h hi0
          · cases e; exact ⟨g5, rfl, h1, fun j => by simp [World.frozen?, h2]⟩
        subst hg5
        rw [hwq] at RA
        go_wp2_with (at_builtin; refine Lib.wpList_append_run _ rfl _ _ _ _ rfl _ _ rfl rfl _ _ RA.out ?_)
        have bP := pick_bd (c := other) (n := (i : Int) + 1) (by omega)
        have kO := Lib.hid (fun W => pick_any other ((i : Int) + 1) W hother.1 hother.2 (by omega) (by omega))
        obtain ⟨P, eP⟩ : ∃ P, pick other ((i : Int) + 1) = P := ⟨_, rfl⟩
        rw [eP] at kO bP
        clear eP
        have v2 := xA.cell bw2
        obtain ⟨y, hy, uy, b9, o9, e9, cg1, cg2⟩ := hLA.get (k := k) hki
        cases e9
        rw [HX.out] at hy
        cases hy
        rw [Nat.zero_add] at cg1 cg2
        simp only at cg1 cg2
        have hwn : IntKind.i64.wrap ((i : Int) + 1) = (i : Int) + 1 := IntWalk.i64_in _ (by omega)
        have hf1 := hfr (k * 2)
        have hf2 := hfr (k * 2 + 1)
        have hki2 : (k : Int) < i := by omega
        have xS : Ext wq ((wA.setCell ⟨g5, k * 2, none⟩ (.int .i64 P)).setCell ⟨g5, k * 2 + 1, none⟩ (.int .i64 x2)) := (xA.setCell hwg _).setCell hwg _
        go_region_held3 (fun w' => (w'.cell? ⟨w8.heap.size, 1, none⟩ = some (.int .i64 x2)))
          (first
            | exact v2
            | exact Ext.cell (Ext.drew xS) bw2
            | go_keep)
          (first
            | (go_at_call 24; (with_reducible refine (kO.out _).mono ?_); rintro e w' ⟨rfl, rfl⟩))
        have hLS := (hLA.set hki (P, x2) ⟨by unfold I64; simp only; omega, uy.2⟩).ext (Ext.drew (Ext.refl _))
        have xS2 := Ext.drew xS
        clear xS
        simp only at hLS
        generalize ((wA.setCell ⟨g5, k * 2, none⟩ (.int .i64 P)).setCell ⟨g5, k * 2 + 1, none⟩ (.int .i64 x2)).drew = wS at hLS xS2 ⊢
        have m1 := xS2.cell bw1
        have m2 := xS2.cell bw2
        replace hE := hE.trans (hEq.trans xS2)
        replace hW := (hW.ext hEq).ext xS2
        obtain ⟨bw, hbw⟩ : ∃ bw, w8.heap.size = bw := ⟨_, rfl⟩
        rw [hbw] at m1 m2 ⊢
        rename_i hh
        clear hh hfr hf1 hf2 cg1 cg2 v2 hLA oA gA xA RA bw1 bw2 hwq hEq hbw xS2 kO hM cx1 cx2
        go_wp2_with (fail)
        have kR := Lib.hid (fun W (hX : Ext wS W) => right_any sk i ck l r (some ⟨g5, 0, none⟩) i cA (T2.set k (P, x2)) W (tab_ext HT.out (hE.trans hX)) (hW.ext hX) (hLS.ext hX))
        obtain ⟨g6, hg6, hg7⟩ : ∃ g6, RowKit.Hid (rightS l r (T2.set k (P, x2)) = g6) ∧ RowKit.Hid ((P == x1) = g6) := ⟨_, Lib.hid rfl, Lib.hid (by
          rw [HRR.out]
          by_cases h : P = x1
          · subst h
            rw [decide_eq_true ⟨rfl, (set_same HX.out).2 rfl⟩]; simp
          · rw [beq_eq_false_iff_ne.2 h, decide_eq_false (fun e => h (congrArg Prod.fst ((set_same HX.out).1 e.2)))])⟩
        rw [hg6.out] at kR
        have q2 := eq2 P x2 x1 x2
        have hq : ((P == x1) && (x2 == x2)) = g6 := by rw [hg7.out]; simp
        rw [hq] at q2
        obtain ⟨y, hy, _, b9, o9, e9, cg1, cg2⟩ := hLS.get (k := k) hki
        cases e9
        rw [List.getElem?_set_self (by have := (List.getElem?_eq_some_iff.1 HX.out).1; exact this)] at hy
        cases hy
        rw [Nat.zero_add] at cg1 cg2
        simp only at cg1 cg2
        clear hq hLS hW
        go_region_held3 (fun w' => ((w'.cell? ⟨g5, k * 2, none⟩ = some (.int .i64 P) ∧ w'.cell? ⟨g5, k * 2 + 1, none⟩ = some (.int .i64 x2)) ∧ w'.cell? ⟨bw, 0, none⟩ = some (.int .i64 x1) ∧ w'.cell? ⟨bw, 1, none⟩ = some (.int .i64 x2)))
          (first
            | exact ⟨⟨cg1, cg2⟩, m1, m2⟩
            | exact ⟨⟨Ext.cell x9 cg1, Ext.cell x9 cg2⟩, Ext.cell x9 m1, Ext.cell x9 m2⟩
            | go_keep)
          (first
            | (go_at_call 13; (with_reducible refine (kR.out _ (Ext.drew (Ext.refl wS))).mono ?_); rintro e w9 ⟨rfl, hE9⟩; have x9 : Ext wS w9 := (Ext.drew (Ext.refl wS)).trans hE9))
        all_goals
          replace hE := hE.trans x9
          go_wp2_with (fail)
          go_ret
          exact ⟨by simp, hE⟩

end Go.Proofs.YtnmeakkehonnmaaDoor.Trp
