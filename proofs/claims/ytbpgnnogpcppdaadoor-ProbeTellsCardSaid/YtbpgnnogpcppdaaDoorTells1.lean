/-
  The law ProbeTells, walked at width one. Conditions: the package's table lies; the integers' bounds; the words and the raw numbers are there.
-/
import Derived.Test.YtbpgnnogpcppdaaDoorTable
import Derived.Test.YtbpgnnogpcppdaaDoorRead
namespace Go.Proofs.YtbpgnnogpcppdaaDoor
open Go.RowKit (Below intOf)

theorem cell_new (w : World) (cs : Array Value) (t : TypeId) (i : Nat) : (w.alloc (.cells cs t)).cell? ⟨w.heap.size, i, none⟩ = cs[i]? := by
  unfold World.cell?
  rw [World.alloc_heap_new]
  simp
/-- Three slices of words in one. -/
theorem words_lit (w : World) (s1 s2 s3 : Option Addr) (n1 n2 n3 c1 c2 c3 : Nat) (l1 l2 l3 : List Int) (h1 : WS w s1 n1 c1 l1) (h2 : WS w s2 n2 c2 l2) (h3 : WS w s3 n3 c3 l3) (j : Nat) (hj : j < 3) :
    ∃ s n c l, WS (w.alloc (.cells #[.slice s1 n1 c1, .slice s2 n2 c2, .slice s3 n3 c3] 23)) s n c l ∧ (w.alloc (.cells #[.slice s1 n1 c1, .slice s2 n2 c2, .slice s3 n3 c3] 23)).cell? ⟨w.heap.size, j, none⟩ = some (.slice s n c) := by
  have hE := Ext.new w (.cells #[.slice s1 n1 c1, .slice s2 n2 c2, .slice s3 n3 c3] 23)
  match j, hj with
  | 0, _ => exact ⟨s1, n1, c1, l1, h1.ext hE, by rw [cell_new]; rfl⟩
  | 1, _ => exact ⟨s2, n2, c2, l2, h2.ext hE, by rw [cell_new]; rfl⟩
  | 2, _ => exact ⟨s3, n3, c3, l3, h3.ext hE, by rw [cell_new]; rfl⟩
/-- Three ints. -/
theorem ints_lit (w : World) (a b c : Int) (ha : I64 a) (hb : I64 b) (hc : I64 c) (j : Nat) (hj : j < 3) :
    ∃ p, I64 p ∧ (w.alloc (.cells #[.int .i64 a, .int .i64 b, .int .i64 c] 3)).cell? ⟨w.heap.size, j, none⟩ = some (.int .i64 p) := by
  match j, hj with
  | 0, _ => exact ⟨a, ha, by rw [cell_new]; rfl⟩
  | 1, _ => exact ⟨b, hb, by rw [cell_new]; rfl⟩
  | 2, _ => exact ⟨c, hc, by rw [cell_new]; rfl⟩
/-- Three records. -/
theorem recs_lit (w : World) (a b c d e f : Int) (ha : U64 a) (hb : U64 b) (hc : U64 c) (hd : U64 d) (he : U64 e) (hf : U64 f) (j : Nat) (hj : j < 3) :
    ∃ p q, U64 p ∧ U64 q ∧ (w.alloc (.cells #[.int .u64 a, .int .u64 b, .int .u64 c, .int .u64 d, .int .u64 e, .int .u64 f] 34)).cell? ⟨w.heap.size, j * 2, none⟩ = some (.int .u64 p) ∧ (w.alloc (.cells #[.int .u64 a, .int .u64 b, .int .u64 c, .int .u64 d, .int .u64 e, .int .u64 f] 34)).cell? ⟨w.heap.size, j * 2 + 1, none⟩ = some (.int .u64 q) := by
  match j, hj with
  | 0, _ => exact ⟨a, b, ha, hb, by rw [cell_new]; rfl, by rw [cell_new]; rfl⟩
  | 1, _ => exact ⟨c, d, hc, hd, by rw [cell_new]; rfl, by rw [cell_new]; rfl⟩
  | 2, _ => exact ⟨e, f, he, hf, by rw [cell_new]; rfl, by rw [cell_new]; rfl⟩

set_option maxRecDepth 100000 in
set_option maxHeartbeats 2000000 in
theorem tells_1 (a b : Int) (sr : Option Addr) (nr cr : Nat) (rs : List Int) (sx : Option Addr) (nx cx : Nat) (xx : List Int) (odd key val k : Int) (w : World) (hT : Tab w) (ha : I64 a) (hb : I64 b) (hR : IS w sr nr rs) (hX : WL w sx nx cx xx) (ho : I64 odd) (hkey : U64 key) (hval : U64 val) (hk : I64 k) (hv : pick b 2 = 0) :
    Calls Tryd.prog 3 #[.int .i64 a, .int .i64 b, .slice sr nr cr, .slice sx nx cx, .int .i64 odd, .int .u64 key, .int .u64 val, .int .i64 k] w fun e w' => e = .returned (.bool true) ∧ Ext w w' := by
  obtain ⟨X, hXe⟩ : ∃ X : Nat, X = min nx 60 := ⟨_, rfl⟩
  have hX60 : X ≤ 60 := by omega
  have hmin : RowKit.Hid (min (nx : Int) 60 = X) := Lib.hid (by omega)
  have hlc := hX.2.1
  have hcl := hX.2.2.1
  have hqx : WS w sx X cx (xx.take X) := hX.take (by omega) (by omega)
  have hcut : RowKit.Hid (∀ W, (Instr.sliceAt 23 (.slice sx nx cx) none (some (.int .i64 (X : Int))) none).run Tryd.prog W = .ok (.slice sx X cx) W) := Lib.hid (fun W => slice_hi1 sx nx cx X (by omega) W)
  have HQX := Lib.hid hqx
  obtain ⟨LX, eLX⟩ : ∃ LX, RowKit.Hid (xx.take X = LX) := ⟨_, Lib.hid rfl⟩
  rw [eLX.out] at HQX
  have kK : RowKit.Hid (∀ W, Calls Tryd.prog 16 #[.int .i64 k] W fun e w' => e = .returned (.int .u64 (keyOf k)) ∧ W = w') := Lib.hid (fun W => key_any k W hk.1 hk.2)
  have uK := Lib.hid (keyOf_u k)
  obtain ⟨K, eK⟩ : ∃ K, RowKit.Hid (keyOf k = K) := ⟨_, Lib.hid rfl⟩
  rw [eK.out] at kK uK
  have HT := Lib.hid hT
  have HR := Lib.hid hR
  have Ha := Lib.hid ha
  have Hb := Lib.hid hb
  have Ho := Lib.hid ho
  have Hkey := Lib.hid hkey
  have Hval := Lib.hid hval
  have Hv := Lib.hid hv
  clear hT hR ha hb hv hk ho hkey hval hX hqx hXe
  go_enter Tryd.func3, Tryd.ntmps3
  go_wp2_with (fail)
  refine (awake_any w HT.out).mono ?_
  rintro e w1 ⟨rfl, hE1⟩
  have HE1 := Lib.hid hE1
  clear hE1
  go_wp2_with (fail)
  refine (table_1 a b sr nr cr rs w1 Ha.out Hb.out (HR.out.ext HE1.out) Hv.out).mono ?_
  rintro e w2 ⟨hE2, sl, n, c, xs, S, rfl, hS, hTb⟩
  have hn1 : 1 ≤ n := by
    have h1 := hTb.len; rw [hS.len] at h1
    have := hTb.n1; omega
  have hnm := hS.le
  have hcm := hS.cle
  have HE2 := Lib.hid (HE1.out.trans hE2)
  clear hE2 hTb
  obtain ⟨st, ct, w3, hap, h1, h2, h3, h4, h5⟩ := append_words hS 23
  have est : st = some ⟨w2.heap.size, 0, none⟩ := h3 (by omega)
  subst est
  have HS := Lib.hid (hS.ext h5)
  have HS2 := Lib.hid hS
  have HE3 := Lib.hid (HE2.out.trans h5)
  have Hap := Lib.hid hap
  have HRow := Lib.hid h4
  have hlen := Lib.hid hS.len
  have hb2 := Lib.hid h5.size
  have HE23 := Lib.hid (show Ext w2 w3 from h5)
  clear hap h3 h4 h5 hS
  generalize eB : w2.heap.size = B at *
  have hmin2 : min (nx : Int) 60 = X := hmin.out
  have hcut2 := hcut.out
  by_cases hX0 : X = 0
  · subst hX0
    go_wp2_with (at_builtin; refine Lib.wpList_append_run _ rfl _ _ _ _ rfl _ _ rfl rfl _ _ Hap.out ?_)
    clear hmin2 hcut2
    have hE4 := Ext.new w3 (.cells #[.slice sl n c, .slice sx 0 cx, .slice (some ⟨B, 0, none⟩) n ct] 23)
    have hwl := Lib.hid (words_lit w3 sl sx (some ⟨B, 0, none⟩) n 0 n c cx ct xs LX xs HS.out (HQX.out.ext HE3.out) (HRow.out.ws hlen.out (by omega) h1 h2))
    have HEw := Lib.hid ((HE3.out).trans hE4)
    clear hE4
    generalize w3.heap.size = B1 at hwl ⊢
    generalize w3.alloc (.cells #[.slice sl n c, .slice sx 0 cx, .slice (some ⟨B, 0, none⟩) n ct] 23) = w4 at hwl HEw ⊢
    clear HQX HS HE3 HRow HE23 hb2
    go_loopw [72] (fun i wr => ∃ (q : Nat), q ≤ 3 ∧ i = .int .i64 q ∧ RowKit.Hid (Ext w4 wr)) (fun i _ => 3 - (intOf i).toNat)
    case atStart => exact ⟨0, by omega, rfl, Lib.hid (Ext.refl w4)⟩
    case round =>
      obtain ⟨q, hq, rfl, hEq⟩ := hrel
      by_cases hlt : q < 3
      · have hq3 : (q : Int) < 3 := by omega
        obtain ⟨s, m, d, l, hQ, x0⟩ := hwl.out q hlt
        replace x0 := hEq.out.cell x0
        have HQ := Lib.hid (hQ.ext hEq.out)
        clear hQ
        go_wp2_with (fail)
        have hE5 := Ext.new wr (.cells #[.int .i64 1, .int .i64 odd, .int .i64 2] 3)
        have hil := Lib.hid (ints_lit wr 1 odd 2 (by unfold I64; omega) Ho.out (by unfold I64; omega))
        have HQ5 := Lib.hid (HQ.out.ext hE5)
        have HE5 := Lib.hid (hEq.out.trans hE5)
        clear hE5 HQ x0 hEq
        generalize wr.heap.size = B2 at hil ⊢
        generalize wr.alloc (.cells #[.int .i64 1, .int .i64 odd, .int .i64 2] 3) = w5 at hil HQ5 HE5 ⊢
        clear wr
        go_loopw [82] (fun i wr => ∃ (y : Nat), y ≤ 3 ∧ i = .int .i64 y ∧ RowKit.Hid (Ext w5 wr)) (fun i _ => 3 - (intOf i).toNat)
        case atStart => exact ⟨0, by omega, rfl, Lib.hid (Ext.refl w5)⟩
        case round =>
          obtain ⟨y, hy, rfl, hEy⟩ := hrel
          by_cases hlt2 : y < 3
          · have hy3 : (y : Int) < 3 := by omega
            obtain ⟨p, hp, y0⟩ := hil.out y hlt2
            replace y0 := hEy.out.cell y0
            have Hp := Lib.hid hp
            clear hp
            have HQ := Lib.hid (HQ5.out.ext hEy.out)
            have HTw := Lib.hid (HT.out.ext ((HEw.out.trans HE5.out).trans hEy.out))
            obtain ⟨r, er⟩ : ∃ r, RowKit.Hid (r = rightS l p) := ⟨_, Lib.hid rfl⟩
            have hrr : (r != r) = false := by simp
            go_wp2_with (fail)
            refine (right_any s m d l p r wr HTw.out HQ.out er).mono ?_
            rintro e w6 ⟨rfl, hE6⟩
            have HE6 := Lib.hid hE6
            clear hE6 y0
            go_wp2_with (fail)
            refine (rright_any s m d l p r w6 (HQ.out.ext HE6.out) Hp.out er).mono ?_
            rintro e w7 ⟨rfl, hE7⟩
            have HE7 := Lib.hid (HE6.out.trans hE7)
            clear hE7
            go_wp2_with (fail)
            refine (list_any s m d l p w7 (HTw.out.ext HE7.out) (HQ.out.ext HE7.out)).mono ?_
            rintro e w8 ⟨⟨s8, n8, c8, rfl, hQ8⟩, hE8⟩
            have HE8 := Lib.hid (HE7.out.trans hE8)
            have HQ8 := Lib.hid hQ8
            clear hE8 hQ8
            go_wp2_with (fail)
            refine (rlist_any s m d l p w8 (HQ.out.ext HE8.out) Hp.out).mono ?_
            rintro e w9 ⟨⟨s9, n9, c9, rfl, hQ9⟩, hE9⟩
            have HE9 := Lib.hid (HE8.out.trans hE9)
            have HQ89 := Lib.hid (HQ8.out.ext hE9)
            have HQ9 := Lib.hid hQ9
            clear hE9 hQ9 HQ8
            go_wp2_with (fail)
            refine (records_same s8 s9 n8 n9 c8 c9 (listS l p) (listS l p) true w9 HQ89.out HQ9.out (Lib.hid (by simp))).mono ?_
            rintro e w10 ⟨rfl, q10, hq10⟩
            have HE10 := Lib.hid (show Ext wr w10 by rw [hq10]; exact HE9.out.drewN q10)
            clear hq10 HQ89 HQ9
            go_wp2_with (first | (go_at_call 16; (with_reducible refine (kK.out _).mono ?_); rintro e w' ⟨rfl, rfl⟩))
            have hE11 := Ext.new w10 (.cells #[.int .u64 key, .int .u64 val, .int .u64 K, .int .u64 0, .int .u64 K, .int .u64 val] 34)
            have hrl := Lib.hid (recs_lit w10 key val K 0 K val Hkey.out Hval.out uK.out (by unfold U64; omega) uK.out Hval.out)
            have HQ11 := Lib.hid (HQ.out.ext (HE10.out.trans hE11))
            have HE11 := Lib.hid ((hEy.out.trans HE10.out).trans hE11)
            clear hE11 HQ HE10 HE9 HE8 HE7 HE6 hEy HTw
            generalize w10.heap.size = B3 at hrl ⊢
            generalize w10.alloc (.cells #[.int .u64 key, .int .u64 val, .int .u64 K, .int .u64 0, .int .u64 K, .int .u64 val] 34) = w11 at hrl HQ11 HE11 ⊢
            clear wr w10
            go_loopw [115] (fun i wr => ∃ (z : Nat), z ≤ 3 ∧ i = .int .i64 z ∧ RowKit.Hid (Ext w11 wr)) (fun i _ => 3 - (intOf i).toNat)
            case atStart => exact ⟨0, by omega, rfl, Lib.hid (Ext.refl w11)⟩
            case round =>
              obtain ⟨z, hz, rfl, hEz⟩ := hrel
              by_cases hlt3 : z < 3
              · have hz3 : (z : Int) < 3 := by omega
                obtain ⟨g, v, ug, uv, z0, z1⟩ := hrl.out z hlt3
                replace z0 := hEz.out.cell z0
                replace z1 := hEz.out.cell z1
                have Ug := Lib.hid ug
                have Uv := Lib.hid uv
                clear ug uv
                have hE12 := Ext.new wr (.cells #[.int .u64 g, .int .u64 v] 34)
                have HQ := Lib.hid (HQ11.out.ext (hEz.out.trans hE12))
                have HTz := Lib.hid (HT.out.ext ((((HEw.out.trans HE5.out).trans HE11.out).trans hEz.out).trans hE12))
                have HEz := Lib.hid (hEz.out.trans hE12)
                have g0 : (wr.alloc (.cells #[.int .u64 g, .int .u64 v] 34)).cell? ⟨wr.heap.size, 0, none⟩ = some (.int .u64 g) := by rw [cell_new]; rfl
                have g1 : (wr.alloc (.cells #[.int .u64 g, .int .u64 v] 34)).cell? ⟨wr.heap.size, 1, none⟩ = some (.int .u64 v) := by rw [cell_new]; rfl
                have G0 := Lib.hid g0
                have G1 := Lib.hid g1
                obtain ⟨fa, fis, hf⟩ : ∃ fa fis, RowKit.Hid (findS l p g = (fa, fis)) := ⟨_, _, Lib.hid rfl⟩
                obtain ⟨px, pe, hpp⟩ : ∃ px pe, RowKit.Hid (putS l p g v = (px, pe)) := ⟨_, _, Lib.hid rfl⟩
                obtain ⟨dx, de, hdd⟩ : ∃ dx de, RowKit.Hid (delS l p g = (dx, de)) := ⟨_, _, Lib.hid rfl⟩
                have f1 : (fa != fa) = false := by simp
                have f2 : (fis != fis) = false := by simp
                have f3 : (pe != pe) = false := by simp
                have f4 : (de != de) = false := by simp
                clear hE12 g0 g1 hEz
                go_wp2_with (fail)
                clear z0 z1
                generalize wr.heap.size = B4 at G0 G1 ⊢
                generalize wr.alloc (.cells #[.int .u64 g, .int .u64 v] 34) = w12 at HQ HTz HEz G0 G1 ⊢
                clear wr
                have k1 := find_any s m d l p g w12 HTz.out HQ.out Ug.out
                rw [hf.out] at k1
                refine k1.mono ?_
                rintro e w13 ⟨hE13, rfl⟩
                clear k1
                dsimp only
                have HE13 := Lib.hid hE13
                have g0 := hE13.cell G0.out
                clear hE13
                go_wp2_with (fail)
                have k1 := rfind_any s m d l p g w13 (HQ.out.ext HE13.out) Hp.out
                rw [hf.out] at k1
                refine k1.mono ?_
                rintro e w14 ⟨hE14, rfl⟩
                clear k1
                dsimp only
                have HE14 := Lib.hid (HE13.out.trans hE14)
                clear hE14 HE13
                replace g0 := HE14.out.cell G0.out
                have g1 := HE14.out.cell G1.out
                go_wp2_with (fail)
                have k1 := put_any s m d l p g v w14 (HTz.out.ext HE14.out) (HQ.out.ext HE14.out) Ug.out Uv.out
                rw [hpp.out] at k1
                refine k1.mono ?_
                rintro e w15 ⟨hE15, s15, n15, c15, rfl, h15⟩
                clear k1
                dsimp only at h15 ⊢
                have HE15 := Lib.hid (HE14.out.trans hE15)
                have H15 := Lib.hid h15
                clear hE15 HE14 h15
                replace g0 := HE15.out.cell G0.out
                replace g1 := HE15.out.cell G1.out
                go_wp2_with (fail)
                have k1 := rput_any s m d l p g v w15 (HQ.out.ext HE15.out) Hp.out Ug.out Uv.out
                rw [hpp.out] at k1
                refine k1.mono ?_
                rintro e w16 ⟨hE16, s16, n16, c16, rfl, h16⟩
                clear k1
                dsimp only at h16 ⊢
                have H15b := Lib.hid (H15.out.ext hE16)
                have HE16 := Lib.hid (HE15.out.trans hE16)
                have H16 := Lib.hid h16
                clear hE16 HE15 h16 H15
                replace g0 := HE16.out.cell G0.out
                replace g1 := HE16.out.cell G1.out
                go_wp2_with (fail)
                have k1 := del_any s m d l p g w16 (HTz.out.ext HE16.out) (HQ.out.ext HE16.out) Ug.out
                rw [hdd.out] at k1
                refine k1.mono ?_
                rintro e w17 ⟨hE17, s17, n17, c17, rfl, h17⟩
                clear k1
                dsimp only at h17 ⊢
                have H15c := Lib.hid (H15b.out.ext hE17)
                have H16c := Lib.hid (H16.out.ext hE17)
                have HE17 := Lib.hid (HE16.out.trans hE17)
                have H17 := Lib.hid h17
                clear hE17 HE16 h17 H15b H16
                replace g0 := HE17.out.cell G0.out
                replace g1 := HE17.out.cell G1.out
                go_wp2_with (fail)
                have k1 := rdel_any s m d l p g w17 (HQ.out.ext HE17.out) Hp.out
                rw [hdd.out] at k1
                refine k1.mono ?_
                rintro e w18 ⟨hE18, s18, n18, c18, rfl, h18⟩
                clear k1
                dsimp only at h18 ⊢
                have H15d := Lib.hid (H15c.out.ext hE18)
                have H16d := Lib.hid (H16c.out.ext hE18)
                have H17d := Lib.hid (H17.out.ext hE18)
                have HE18 := Lib.hid (HE17.out.trans hE18)
                have H18 := Lib.hid h18
                clear hE18 HE17 h18 H15c H16c H17 g0 g1
                go_wp2_with (fail)
                refine (same_any s15 s16 n15 n16 c15 c16 px px true w18 H15d.out H16d.out (Lib.hid (by simp))).mono ?_
                rintro e w19 ⟨rfl, q19, hq19⟩
                have HE19 := Lib.hid (show Ext w18 w19 by rw [hq19]; exact Ext.draws w18 q19)
                clear hq19
                go_wp2_with (fail)
                refine (same_any s17 s18 n17 n18 c17 c18 dx dx true w19 (H17d.out.ext HE19.out) (H18.out.ext HE19.out) (Lib.hid (by simp))).mono ?_
                rintro e w20 ⟨rfl, q20, hq20⟩
                have HE20 := Lib.hid (show Ext w19 w20 by rw [hq20]; exact Ext.draws w19 q20)
                clear hq20
                go_wp2_with (fail)
                go_roundw
                case rel => exact ⟨z + 1, by omega, by go_num, Lib.hid (((HEz.out.trans HE18.out).trans HE19.out).trans HE20.out)⟩
                case measure => simp [intOf]; omega
              · obtain rfl : z = 3 := by omega
                go_wp2_with (fail)
                go_roundw
                case rel => exact ⟨y + 1, by omega, by go_num, Lib.hid (HE11.out.trans hEz.out)⟩
                case measure => simp [intOf]; omega
          · obtain rfl : y = 3 := by omega
            go_wp2_with (fail)
            go_roundw
            case rel => exact ⟨q + 1, by omega, by go_num, Lib.hid (HE5.out.trans hEy.out)⟩
            case measure => simp [intOf]; omega
      · obtain rfl : q = 3 := by omega
        go_wp2_with (fail)
        go_ret
        exact ⟨rfl, HEw.out.trans hEq.out⟩
  · have hX1 : (0 : Int) < X := by omega
    obtain ⟨x0, hx0, ux0, bx, ox, rfl, e0⟩ := HQX.out.get (k := 0) (by omega)
    have hpb := pick_bd (c := odd) (n := (n : Int)) (by omega)
    obtain ⟨T, hTT⟩ : ∃ T : Nat, (T : Int) = pick odd n := ⟨(pick odd n).toNat, by omega⟩
    have hTn : T < n := by omega
    have kT : RowKit.Hid (∀ W, Calls Tryd.prog 10 #[.int .i64 odd, .int .i64 n] W fun e w' => e = .returned (.int .i64 T) ∧ W = w') := Lib.hid (fun W => by rw [hTT]; exact pick_any odd n W Ho.out.1 Ho.out.2 (by omega) (by omega))
    obtain ⟨t0, r1, r2⟩ := HRow.out.get (i := T) (by rw [hlen.out]; exact hTn)
    have hTi : (T : Int) < n := by omega
    have hbx : bx ≠ B := by have h2 := HE2.out.size; have h3 : bx < w.heap.size := World.block_lt_of_cell? w _ e0; omega
    have e1 := HE3.out.cell e0
    have e2 := HE2.out.cell e0
    clear hpb hTT e0 hx0
    simp only [Nat.add_zero] at e1 e2
    go_wp2_with (at_builtin; refine Lib.wpList_append_run _ rfl _ _ _ _ rfl _ _ rfl rfl _ _ Hap.out ?_)
    clear hmin2 hcut2
    go_region_held3 (fun w' => (w'.cell? ⟨bx, ox, none⟩ = some (.int .u64 x0)))
      (first
        | exact e1
        | exact Ext.cell (Ext.drew (Ext.setCell HE23.out (by omega) _)) e2
        | go_keep)
      (first
        | (go_at_call 10; (with_reducible refine (kT.out _).mono ?_); rintro e w' ⟨rfl, rfl⟩))
    rename_i hh
    have hE24 : Ext w2 (w3.setCell ⟨B, T, none⟩ (.int .u64 x0)).drew := Ext.drew (Ext.setCell HE23.out (by omega) _)
    have HRow4 := Lib.hid ((HRow.out.set (i := T) (by rw [hlen.out]; exact hTn) ux0).ext (Ext.drew (Ext.refl _)))
    have HS4 := Lib.hid (HS2.out.ext hE24)
    have HQ4 := Lib.hid (HQX.out.ext (HE2.out.trans hE24))
    have HE4 := Lib.hid (HE2.out.trans hE24)
    obtain ⟨ts, ets⟩ : ∃ ts, xs.set T x0 = ts := ⟨_, rfl⟩
    rw [ets] at HRow4
    have hlen4 : RowKit.Hid (ts.length = n) := Lib.hid (by rw [← ets, List.length_set]; exact hlen.out)
    clear hh e1 e2 r1 r2 hE24 kT ets hTi hbx ux0
    generalize (w3.setCell ⟨B, T, none⟩ (.int .u64 x0)).drew = w4 at HRow4 HS4 HQ4 HE4 ⊢
    go_wp2_with (fail)
    have hE4 := Ext.new w4 (.cells #[.slice sl n c, .slice (some ⟨bx, ox, none⟩) X cx, .slice (some ⟨B, 0, none⟩) n ct] 23)
    have hwl := Lib.hid (words_lit w4 sl (some ⟨bx, ox, none⟩) (some ⟨B, 0, none⟩) n X n c cx ct xs LX ts HS4.out HQ4.out (HRow4.out.ws hlen4.out (by omega) h1 h2))
    have HEw := Lib.hid ((HE4.out).trans hE4)
    clear hE4
    generalize w4.heap.size = B1 at hwl ⊢
    generalize w4.alloc (.cells #[.slice sl n c, .slice (some ⟨bx, ox, none⟩) X cx, .slice (some ⟨B, 0, none⟩) n ct] 23) = w4b at hwl HEw ⊢
    clear HQX HS HE3 HRow HE23 hb2 HS4 HQ4 HRow4 HE4
    go_loopw [72] (fun i wr => ∃ (q : Nat), q ≤ 3 ∧ i = .int .i64 q ∧ RowKit.Hid (Ext w4b wr)) (fun i _ => 3 - (intOf i).toNat)
    case atStart => exact ⟨0, by omega, rfl, Lib.hid (Ext.refl w4b)⟩
    case round =>
      obtain ⟨q, hq, rfl, hEq⟩ := hrel
      by_cases hlt : q < 3
      · have hq3 : (q : Int) < 3 := by omega
        obtain ⟨s, m, d, l, hQ, x0⟩ := hwl.out q hlt
        replace x0 := hEq.out.cell x0
        have HQ := Lib.hid (hQ.ext hEq.out)
        clear hQ
        go_wp2_with (fail)
        have hE5 := Ext.new wr (.cells #[.int .i64 1, .int .i64 odd, .int .i64 2] 3)
        have hil := Lib.hid (ints_lit wr 1 odd 2 (by unfold I64; omega) Ho.out (by unfold I64; omega))
        have HQ5 := Lib.hid (HQ.out.ext hE5)
        have HE5 := Lib.hid (hEq.out.trans hE5)
        clear hE5 HQ x0 hEq
        generalize wr.heap.size = B2 at hil ⊢
        generalize wr.alloc (.cells #[.int .i64 1, .int .i64 odd, .int .i64 2] 3) = w5 at hil HQ5 HE5 ⊢
        clear wr
        go_loopw [82] (fun i wr => ∃ (y : Nat), y ≤ 3 ∧ i = .int .i64 y ∧ RowKit.Hid (Ext w5 wr)) (fun i _ => 3 - (intOf i).toNat)
        case atStart => exact ⟨0, by omega, rfl, Lib.hid (Ext.refl w5)⟩
        case round =>
          obtain ⟨y, hy, rfl, hEy⟩ := hrel
          by_cases hlt2 : y < 3
          · have hy3 : (y : Int) < 3 := by omega
            obtain ⟨p, hp, y0⟩ := hil.out y hlt2
            replace y0 := hEy.out.cell y0
            have Hp := Lib.hid hp
            clear hp
            have HQ := Lib.hid (HQ5.out.ext hEy.out)
            have HTw := Lib.hid (HT.out.ext ((HEw.out.trans HE5.out).trans hEy.out))
            obtain ⟨r, er⟩ : ∃ r, RowKit.Hid (r = rightS l p) := ⟨_, Lib.hid rfl⟩
            have hrr : (r != r) = false := by simp
            go_wp2_with (fail)
            refine (right_any s m d l p r wr HTw.out HQ.out er).mono ?_
            rintro e w6 ⟨rfl, hE6⟩
            have HE6 := Lib.hid hE6
            clear hE6 y0
            go_wp2_with (fail)
            refine (rright_any s m d l p r w6 (HQ.out.ext HE6.out) Hp.out er).mono ?_
            rintro e w7 ⟨rfl, hE7⟩
            have HE7 := Lib.hid (HE6.out.trans hE7)
            clear hE7
            go_wp2_with (fail)
            refine (list_any s m d l p w7 (HTw.out.ext HE7.out) (HQ.out.ext HE7.out)).mono ?_
            rintro e w8 ⟨⟨s8, n8, c8, rfl, hQ8⟩, hE8⟩
            have HE8 := Lib.hid (HE7.out.trans hE8)
            have HQ8 := Lib.hid hQ8
            clear hE8 hQ8
            go_wp2_with (fail)
            refine (rlist_any s m d l p w8 (HQ.out.ext HE8.out) Hp.out).mono ?_
            rintro e w9 ⟨⟨s9, n9, c9, rfl, hQ9⟩, hE9⟩
            have HE9 := Lib.hid (HE8.out.trans hE9)
            have HQ89 := Lib.hid (HQ8.out.ext hE9)
            have HQ9 := Lib.hid hQ9
            clear hE9 hQ9 HQ8
            go_wp2_with (fail)
            refine (records_same s8 s9 n8 n9 c8 c9 (listS l p) (listS l p) true w9 HQ89.out HQ9.out (Lib.hid (by simp))).mono ?_
            rintro e w10 ⟨rfl, q10, hq10⟩
            have HE10 := Lib.hid (show Ext wr w10 by rw [hq10]; exact HE9.out.drewN q10)
            clear hq10 HQ89 HQ9
            go_wp2_with (first | (go_at_call 16; (with_reducible refine (kK.out _).mono ?_); rintro e w' ⟨rfl, rfl⟩))
            have hE11 := Ext.new w10 (.cells #[.int .u64 key, .int .u64 val, .int .u64 K, .int .u64 0, .int .u64 K, .int .u64 val] 34)
            have hrl := Lib.hid (recs_lit w10 key val K 0 K val Hkey.out Hval.out uK.out (by unfold U64; omega) uK.out Hval.out)
            have HQ11 := Lib.hid (HQ.out.ext (HE10.out.trans hE11))
            have HE11 := Lib.hid ((hEy.out.trans HE10.out).trans hE11)
            clear hE11 HQ HE10 HE9 HE8 HE7 HE6 hEy HTw
            generalize w10.heap.size = B3 at hrl ⊢
            generalize w10.alloc (.cells #[.int .u64 key, .int .u64 val, .int .u64 K, .int .u64 0, .int .u64 K, .int .u64 val] 34) = w11 at hrl HQ11 HE11 ⊢
            clear wr w10
            go_loopw [115] (fun i wr => ∃ (z : Nat), z ≤ 3 ∧ i = .int .i64 z ∧ RowKit.Hid (Ext w11 wr)) (fun i _ => 3 - (intOf i).toNat)
            case atStart => exact ⟨0, by omega, rfl, Lib.hid (Ext.refl w11)⟩
            case round =>
              obtain ⟨z, hz, rfl, hEz⟩ := hrel
              by_cases hlt3 : z < 3
              · have hz3 : (z : Int) < 3 := by omega
                obtain ⟨g, v, ug, uv, z0, z1⟩ := hrl.out z hlt3
                replace z0 := hEz.out.cell z0
                replace z1 := hEz.out.cell z1
                have Ug := Lib.hid ug
                have Uv := Lib.hid uv
                clear ug uv
                have hE12 := Ext.new wr (.cells #[.int .u64 g, .int .u64 v] 34)
                have HQ := Lib.hid (HQ11.out.ext (hEz.out.trans hE12))
                have HTz := Lib.hid (HT.out.ext ((((HEw.out.trans HE5.out).trans HE11.out).trans hEz.out).trans hE12))
                have HEz := Lib.hid (hEz.out.trans hE12)
                have g0 : (wr.alloc (.cells #[.int .u64 g, .int .u64 v] 34)).cell? ⟨wr.heap.size, 0, none⟩ = some (.int .u64 g) := by rw [cell_new]; rfl
                have g1 : (wr.alloc (.cells #[.int .u64 g, .int .u64 v] 34)).cell? ⟨wr.heap.size, 1, none⟩ = some (.int .u64 v) := by rw [cell_new]; rfl
                have G0 := Lib.hid g0
                have G1 := Lib.hid g1
                obtain ⟨fa, fis, hf⟩ : ∃ fa fis, RowKit.Hid (findS l p g = (fa, fis)) := ⟨_, _, Lib.hid rfl⟩
                obtain ⟨px, pe, hpp⟩ : ∃ px pe, RowKit.Hid (putS l p g v = (px, pe)) := ⟨_, _, Lib.hid rfl⟩
                obtain ⟨dx, de, hdd⟩ : ∃ dx de, RowKit.Hid (delS l p g = (dx, de)) := ⟨_, _, Lib.hid rfl⟩
                have f1 : (fa != fa) = false := by simp
                have f2 : (fis != fis) = false := by simp
                have f3 : (pe != pe) = false := by simp
                have f4 : (de != de) = false := by simp
                clear hE12 g0 g1 hEz
                go_wp2_with (fail)
                clear z0 z1
                generalize wr.heap.size = B4 at G0 G1 ⊢
                generalize wr.alloc (.cells #[.int .u64 g, .int .u64 v] 34) = w12 at HQ HTz HEz G0 G1 ⊢
                clear wr
                have k1 := find_any s m d l p g w12 HTz.out HQ.out Ug.out
                rw [hf.out] at k1
                refine k1.mono ?_
                rintro e w13 ⟨hE13, rfl⟩
                clear k1
                dsimp only
                have HE13 := Lib.hid hE13
                have g0 := hE13.cell G0.out
                clear hE13
                go_wp2_with (fail)
                have k1 := rfind_any s m d l p g w13 (HQ.out.ext HE13.out) Hp.out
                rw [hf.out] at k1
                refine k1.mono ?_
                rintro e w14 ⟨hE14, rfl⟩
                clear k1
                dsimp only
                have HE14 := Lib.hid (HE13.out.trans hE14)
                clear hE14 HE13
                replace g0 := HE14.out.cell G0.out
                have g1 := HE14.out.cell G1.out
                go_wp2_with (fail)
                have k1 := put_any s m d l p g v w14 (HTz.out.ext HE14.out) (HQ.out.ext HE14.out) Ug.out Uv.out
                rw [hpp.out] at k1
                refine k1.mono ?_
                rintro e w15 ⟨hE15, s15, n15, c15, rfl, h15⟩
                clear k1
                dsimp only at h15 ⊢
                have HE15 := Lib.hid (HE14.out.trans hE15)
                have H15 := Lib.hid h15
                clear hE15 HE14 h15
                replace g0 := HE15.out.cell G0.out
                replace g1 := HE15.out.cell G1.out
                go_wp2_with (fail)
                have k1 := rput_any s m d l p g v w15 (HQ.out.ext HE15.out) Hp.out Ug.out Uv.out
                rw [hpp.out] at k1
                refine k1.mono ?_
                rintro e w16 ⟨hE16, s16, n16, c16, rfl, h16⟩
                clear k1
                dsimp only at h16 ⊢
                have H15b := Lib.hid (H15.out.ext hE16)
                have HE16 := Lib.hid (HE15.out.trans hE16)
                have H16 := Lib.hid h16
                clear hE16 HE15 h16 H15
                replace g0 := HE16.out.cell G0.out
                replace g1 := HE16.out.cell G1.out
                go_wp2_with (fail)
                have k1 := del_any s m d l p g w16 (HTz.out.ext HE16.out) (HQ.out.ext HE16.out) Ug.out
                rw [hdd.out] at k1
                refine k1.mono ?_
                rintro e w17 ⟨hE17, s17, n17, c17, rfl, h17⟩
                clear k1
                dsimp only at h17 ⊢
                have H15c := Lib.hid (H15b.out.ext hE17)
                have H16c := Lib.hid (H16.out.ext hE17)
                have HE17 := Lib.hid (HE16.out.trans hE17)
                have H17 := Lib.hid h17
                clear hE17 HE16 h17 H15b H16
                replace g0 := HE17.out.cell G0.out
                replace g1 := HE17.out.cell G1.out
                go_wp2_with (fail)
                have k1 := rdel_any s m d l p g w17 (HQ.out.ext HE17.out) Hp.out
                rw [hdd.out] at k1
                refine k1.mono ?_
                rintro e w18 ⟨hE18, s18, n18, c18, rfl, h18⟩
                clear k1
                dsimp only at h18 ⊢
                have H15d := Lib.hid (H15c.out.ext hE18)
                have H16d := Lib.hid (H16c.out.ext hE18)
                have H17d := Lib.hid (H17.out.ext hE18)
                have HE18 := Lib.hid (HE17.out.trans hE18)
                have H18 := Lib.hid h18
                clear hE18 HE17 h18 H15c H16c H17 g0 g1
                go_wp2_with (fail)
                refine (same_any s15 s16 n15 n16 c15 c16 px px true w18 H15d.out H16d.out (Lib.hid (by simp))).mono ?_
                rintro e w19 ⟨rfl, q19, hq19⟩
                have HE19 := Lib.hid (show Ext w18 w19 by rw [hq19]; exact Ext.draws w18 q19)
                clear hq19
                go_wp2_with (fail)
                refine (same_any s17 s18 n17 n18 c17 c18 dx dx true w19 (H17d.out.ext HE19.out) (H18.out.ext HE19.out) (Lib.hid (by simp))).mono ?_
                rintro e w20 ⟨rfl, q20, hq20⟩
                have HE20 := Lib.hid (show Ext w19 w20 by rw [hq20]; exact Ext.draws w19 q20)
                clear hq20
                go_wp2_with (fail)
                go_roundw
                case rel => exact ⟨z + 1, by omega, by go_num, Lib.hid (((HEz.out.trans HE18.out).trans HE19.out).trans HE20.out)⟩
                case measure => simp [intOf]; omega
              · obtain rfl : z = 3 := by omega
                go_wp2_with (fail)
                go_roundw
                case rel => exact ⟨y + 1, by omega, by go_num, Lib.hid (HE11.out.trans hEz.out)⟩
                case measure => simp [intOf]; omega
          · obtain rfl : y = 3 := by omega
            go_wp2_with (fail)
            go_roundw
            case rel => exact ⟨q + 1, by omega, by go_num, Lib.hid (HE5.out.trans hEy.out)⟩
            case measure => simp [intOf]; omega
      · obtain rfl : q = 3 := by omega
        go_wp2_with (fail)
        go_ret
        exact ⟨rfl, HEw.out.trans hEq.out⟩

end Go.Proofs.YtbpgnnogpcppdaaDoor
