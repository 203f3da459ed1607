/-
  The law TreapTells, walked. Conditions: the package's table lies; the integers' bounds; the words, the raw numbers and the links are there.
-/
import Derived.Test.YtnmeakkehonnmaaDoorTrpAwake
import Derived.Test.YtnmeakkehonnmaaDoorTrpKeys
namespace Go.Proofs.YtnmeakkehonnmaaDoor.Trp
open Go.RowKit (Below intOf)

theorem cell_new (w : World) (cs : Array Value) (t : TypeId) (i : Nat) : (w.alloc (.cells cs t)).cell? ⟨w.heap.size, i, none⟩ = cs[i]? := by
  unfold World.cell?
  rw [World.alloc_heap_new]
  simp
/-- Two slices of words in one. -/
theorem words_lit (w : World) (s1 s2 : Option Addr) (n1 n2 c1 c2 : Nat) (l1 l2 : List Int) (h1 : WS w s1 n1 c1 l1) (h2 : WS w s2 n2 c2 l2) (b1 : n1 ≤ 20) (b2 : n2 ≤ 20) (j : Nat) (hj : j < 2) :
    ∃ s n c l, WS (w.alloc (.cells #[.slice s1 n1 c1, .slice s2 n2 c2] 22)) s n c l ∧ n ≤ 20 ∧ (w.alloc (.cells #[.slice s1 n1 c1, .slice s2 n2 c2] 22)).cell? ⟨w.heap.size, j, none⟩ = some (.slice s n c) := by
  have hE := Ext.new w (.cells #[.slice s1 n1 c1, .slice s2 n2 c2] 22)
  match j, hj with
  | 0, _ => exact ⟨s1, n1, c1, l1, h1.ext hE, b1, by rw [cell_new]; rfl⟩
  | 1, _ => exact ⟨s2, n2, c2, l2, h2.ext hE, b2, by rw [cell_new]; rfl⟩

set_option maxHeartbeats 8000000 in
set_option maxRecDepth 100000 in
theorem tells_walk (sa : Option Addr) (na ca : Nat) (an : List Int) (s : Option Addr) (n c : Nat) (raw : List Int) (root : Int) (sl : Option Addr) (nl cl : Nat) (LL : List Pr) (key kk : Int) (W : World) (hTab : Tab W) (hA : WSL W sa na ca an) (hR : NSL W s n c raw) (_hroot : I64 root) (hLL : LSL W sl nl cl LL) (hkey : U64 key) (hk : I64 kk) :
    Calls Tryd.prog 3 #[.slice sa na ca, .slice s n c, .int .i64 root, .slice sl nl cl, .int .u64 key, .int .i64 kk] W fun e w' => e = .returned (.bool true) ∧ Below W.heap.size W w' := by
  have HT := Lib.hid hTab
  have HR := Lib.hid hR
  have HLL := Lib.hid hLL
  have HA := Lib.hid hA
  have hnl : (nl : Int) ≤ 9223372036854775807 := by have := hLL.2.1; have := hLL.2.2.1; omega
  have hna : (na : Int) ≤ 9223372036854775807 := by have := hA.2.1; have := hA.2.2.1; omega
  have Hna := Lib.hid hna
  have Hnl := Lib.hid hnl
  clear hTab hR hLL hA hna hnl
  go_enter Tryd.func3, Tryd.ntmps3
  go_wp2_with (fail)
  refine (awake_any W HT.out).mono ?_
  rintro e w1 ⟨rfl, hE⟩
  go_wp2_with (fail)
  refine (keys_any s n c raw w1 (HR.out.ext hE)).mono ?_
  rintro e w2 ⟨sk, m, ck, rfl, l, hW, hm, hRi, hE2⟩
  replace hE := hE.trans hE2
  clear hE2 HR hRi
  obtain ⟨N, hN⟩ : ∃ N : Nat, RowKit.Hid (min na 20 = N) := ⟨_, Lib.hid rfl⟩
  have hN20 : N ≤ 20 := by have := hN.out; omega
  have hmin : min (na : Int) 20 = (N : Int) := by have := hN.out; omega
  have hmin2 : min 20 (na : Int) = (N : Int) := by have := hN.out; omega
  have hmin3 : (if (20 : Int) < na then (20 : Int) else na) = (N : Int) := by have := hN.out; split <;> omega
  have hmin4 : (if (na : Int) ≤ 20 then (na : Int) else 20) = (N : Int) := by have := hN.out; split <;> omega
  have hmin5 : (if (na : Int) < 20 then (na : Int) else 20) = (N : Int) := by have := hN.out; split <;> omega
  have hmin6 : (if (20 : Int) ≤ na then (20 : Int) else na) = (N : Int) := by have := hN.out; split <;> omega
  have hWa := (HA.out.ext hE).take (k := N) (by have := hN.out; omega) (by omega)
  have hNc : N ≤ ca := by have := hN.out; have := HA.out.2.1; omega
  have q1 : ∀ W, (Instr.sliceAt 22 (.slice sa na ca) none (some (.int .i64 (N : Int))) none).run Tryd.prog W = .ok (.slice sa N ca) W := fun W => slice_hiWS sa na ca N hNc W
  go_wp2_with (fail)
  clear hmin hmin2 hmin3 hmin4 hmin5 hmin6 q1
  have hwl := Lib.hid (words_lit w2 sa sk N m ca ck (an.take N) l hWa hW hN20 hm)
  have HE := Lib.hid (hE.trans (Ext.new w2 (.cells #[.slice sa N ca, .slice sk m ck] 22)))
  clear hWa hW hE
  generalize w2.heap.size = B1 at hwl ⊢
  generalize w2.alloc (.cells #[.slice sa N ca, .slice sk m ck] 22) = w4 at hwl HE ⊢
  obtain ⟨M, hM⟩ : ∃ M : Nat, RowKit.Hid (min nl 20 = M) := ⟨_, Lib.hid rfl⟩
  have hM20 : M ≤ 20 := by have := hM.out; omega
  have hMc : M ≤ cl := by have := hM.out; have := HLL.out.2.1; omega
  go_loopw [47] (fun jv wr => ∃ jx : Nat, jx ≤ 2 ∧ jv = .int .i64 jx ∧ RowKit.Hid (Ext w4 wr)) (fun jv _ => 2 - (intOf jv).toNat)
  case atStart => exact ⟨0, by omega, rfl, Lib.hid (Ext.refl w4)⟩
  case round =>
    obtain ⟨jx, hjx, rfl, hEq⟩ := hrel
    by_cases hj2 : jx < 2
    · have hj3 : (jx : Int) < 2 := by omega
      obtain ⟨sx, nx, cx, lx, hX, hnx, x0⟩ := hwl.out jx hj2
      replace x0 := hEq.out.cell x0
      replace hX := hX.ext hEq.out
      have hE := HE.out.trans hEq.out
      go_wp2_with (fail)
      clear x0
      obtain ⟨A, Ms, E, hB⟩ : ∃ A Ms E, buildS lx = (A, Ms, E) := ⟨_, _, _, rfl⟩
      have hbd := build_bd lx
      rw [hB] at hbd
      simp only at hbd
      have c1 := build_any sx nx cx lx wr (tab_ext HT.out hE) hX (by omega)
      rw [hB] at c1
      refine c1.mono ?_
      clear c1
      rintro e w5 ⟨hE2, s5, m5, c5, rfl, hL5⟩
      replace hX := hX.ext hE2
      replace hE := hE.trans hE2
      have hE4 := hEq.out.trans hE2
      clear hE2
      simp only at hL5 ⊢
      go_wp2_with (fail)
      have c1 := rbuild_any sx nx cx lx w5 hX
      rw [hB] at c1
      refine c1.mono ?_
      clear c1
      rintro e w6 ⟨hE2, s6, m6, c6, rfl, hL6⟩
      replace hX := hX.ext hE2
      replace hL5 := hL5.ext hE2
      replace hE := hE.trans hE2
      replace hE4 := hE4.trans hE2
      clear hE2
      simp only at hL6 ⊢
      go_wp2_with (fail)
      refine (links_any s5 s6 m5 m6 c5 c6 Ms Ms true w6 hL5 hL6 (Lib.hid (by simp))).mono ?_
      rintro e w7 ⟨rfl, q7, e7⟩
      have hE2 : Ext w6 w7 := by rw [e7]; exact Ext.draws w6 q7
      replace hX := hX.ext hE2
      replace hL6 := hL6.ext hE2
      replace hE := hE.trans hE2
      replace hE4 := hE4.trans hE2
      clear hE2 e7 hL5 hB hEq
      go_wp2_with (fail)
      have HX7 := Lib.hid hX
      have HL6 := Lib.hid hL6
      have HE7 := Lib.hid hE
      have HE47 := Lib.hid hE4
      clear hX hL6 hE hE4
      go_loopw [23] (fun iv wr => (iv = .int .i64 0 ∨ iv = .int .i64 1 ∨ iv = .int .i64 2 ∨ iv = .int .i64 3) ∧ RowKit.Hid (Ext w7 wr)) (fun iv _ => (3 - intOf iv).toNat)
      case atStart => exact ⟨.inl rfl, Lib.hid (Ext.refl w7)⟩
      case round =>
        obtain ⟨hiv, hEi⟩ := hrel
        have hX := HX7.out.ext hEi.out
        have hE := HE7.out.trans hEi.out
        have hE4 := HE47.out.trans hEi.out
        have qL : ∀ W, (Instr.sliceAt 24 (.slice sl nl cl) none (some (.int .i64 (M : Int))) none).run Tryd.prog W = .ok (.slice sl M cl) W := fun W => slice_hiLS sl nl cl M hMc W
        have hqL1 : min (nl : Int) 20 = (M : Int) := by have := hM.out; omega
        have hqL2 : min 20 (nl : Int) = (M : Int) := by have := hM.out; omega
        have hqL3 : (if (20 : Int) < nl then (20 : Int) else nl) = (M : Int) := by have := hM.out; split <;> omega
        have hqL4 : (if (nl : Int) ≤ 20 then (nl : Int) else 20) = (M : Int) := by have := hM.out; split <;> omega
        have hqL5 : (if (nl : Int) < 20 then (nl : Int) else 20) = (M : Int) := by have := hM.out; split <;> omega
        have hqL6 : (if (20 : Int) ≤ nl then (20 : Int) else nl) = (M : Int) := by have := hM.out; split <;> omega
        rcases hiv with rfl | rfl | rfl | rfl
        · as_aux_lemma =>
            have hLw := (HLL.out.ext hE).take (k := M) (by have := hM.out; omega) (by omega)

            have hEj := hEi.out
            go_wp2_with (fail)
            have c1 := right_any sx nx cx lx root sl M cl (LL.take M) wr (tab_ext HT.out hE) hX hLw
            obtain ⟨g, hg⟩ : ∃ g, RowKit.Hid (rightS lx root (LL.take M) = g) := ⟨_, Lib.hid rfl⟩
            rw [hg.out] at c1
            refine c1.mono ?_
            clear c1
            rintro e w8 ⟨rfl, hE2⟩
            replace hX := hX.ext hE2
            replace hLw := hLw.ext hE2
            replace hE := hE.trans hE2
            replace hE4 := hE4.trans hE2
            replace hEj := hEj.trans hE2
            clear hE2
            go_wp2_with (fail)
            have c1 := rright_any sx nx cx lx root sl M cl (LL.take M) w8 hX hLw
            rw [hg.out] at c1
            refine c1.mono ?_
            clear c1
            rintro e w9 ⟨rfl, hE2⟩
            replace hX := hX.ext hE2
            replace hLw := hLw.ext hE2
            replace hE := hE.trans hE2
            replace hE4 := hE4.trans hE2
            replace hEj := hEj.trans hE2
            clear hE2 hqL1 hqL2 hqL3 hqL4 hqL5 hqL6 qL
            go_wp2_with (fail)
            refine (key_any kk w9 hk.1 hk.2).mono ?_
            rintro e w' ⟨rfl, rfl⟩
            obtain ⟨K2, hK2⟩ : ∃ K2, keyOf kk = K2 := ⟨_, rfl⟩
            have uK2 : U64 K2 := by rw [← hK2]; exact keyOf_u kk
            rw [hK2]
            clear hK2
            go_wp2_with (fail)
            have hQ := Lib.hid (WS.row w9 [key, K2] 2 rfl (by omega) (by
              intro x hx
              rcases List.mem_cons.1 hx with rfl | hx
              · exact hkey
              · rw [List.mem_singleton.1 hx]; exact uK2) #[.int .u64 key, .int .u64 K2] rfl)
            have xN := Ext.new w9 (.cells #[.int .u64 key, .int .u64 K2] 25)
            have HX := Lib.hid (hX.ext xN)
            have HLw := Lib.hid (hLw.ext xN)
            have HEa := Lib.hid (hE.trans xN)
            have HEb := Lib.hid (hE4.trans xN)
            have HEc := Lib.hid (hEj.trans xN)
            clear hX hLw hE hE4 xN hEj
            generalize w9.heap.size = B2 at hQ ⊢
            generalize w9.alloc (.cells #[.int .u64 key, .int .u64 K2] 25) = wa at hQ HX HLw HEa HEb HEc ⊢
            go_loopw [107] (fun jv wr => ∃ y : Nat, y ≤ 2 ∧ jv = .int .i64 y ∧ RowKit.Hid (Ext wa wr)) (fun jv _ => 2 - (intOf jv).toNat)
            case atStart => exact ⟨0, by omega, rfl, Lib.hid (Ext.refl wa)⟩
            case round =>
              obtain ⟨y, hy, rfl, hEy⟩ := hrel
              by_cases hy2 : y < 2
              · have hy3 : (y : Int) < 2 := by omega
                obtain ⟨q, hq, uq, bq, oq, eq, cq⟩ := (hQ.out.ext hEy.out).get (k := y) hy2
                cases eq
                rw [Nat.zero_add] at cq
                have hX := HX.out.ext hEy.out
                have hLw := HLw.out.ext hEy.out
                have hE := HEa.out.trans hEy.out
                have hE8 := hEy.out
                clear hq
                obtain ⟨f1, f2, hf⟩ : ∃ f1 f2, RowKit.Hid (findS lx root (LL.take M) q = (f1, f2)) := ⟨_, _, Lib.hid rfl⟩
                obtain ⟨n1, n2, hn⟩ : ∃ n1 n2, RowKit.Hid (nextS lx root (LL.take M) q = (n1, n2)) := ⟨_, _, Lib.hid rfl⟩
                go_wp2_with (fail)
                clear cq
                have c1 := find_any sx nx cx lx root sl M cl (LL.take M) q _ (tab_ext HT.out hE) hX hLw uq
                rw [hf.out] at c1
                refine c1.mono ?_
                clear c1
                rintro e wb ⟨rfl, hE2⟩
                replace hX := hX.ext hE2
                replace hLw := hLw.ext hE2
                replace hE := hE.trans hE2
                replace hE8 := hE8.trans hE2
                clear hE2
                go_wp2_with (fail)
                have c1 := rfind_any sx nx cx lx root sl M cl (LL.take M) q _ hX hLw
                rw [hf.out] at c1
                refine c1.mono ?_
                clear c1
                rintro e wc ⟨rfl, hE2⟩
                replace hX := hX.ext hE2
                replace hLw := hLw.ext hE2
                replace hE := hE.trans hE2
                replace hE8 := hE8.trans hE2
                clear hE2
                go_wp2_with (fail)
                have c1 := next_any sx nx cx lx root sl M cl (LL.take M) q _ (tab_ext HT.out hE) hX hLw uq
                rw [hn.out] at c1
                refine c1.mono ?_
                clear c1
                rintro e wd ⟨rfl, hE2⟩
                replace hX := hX.ext hE2
                replace hLw := hLw.ext hE2
                replace hE := hE.trans hE2
                replace hE8 := hE8.trans hE2
                clear hE2
                go_wp2_with (fail)
                have c1 := rnext_any sx nx cx lx root sl M cl (LL.take M) q _ hX hLw
                rw [hn.out] at c1
                refine c1.mono ?_
                clear c1
                rintro e we ⟨rfl, hE2⟩
                replace hX := hX.ext hE2
                replace hLw := hLw.ext hE2
                replace hE := hE.trans hE2
                replace hE8 := hE8.trans hE2
                clear hE2
                go_wp2_with (fail)
                refine (path_any sx nx cx lx root sl M cl (LL.take M) q _ (tab_ext HT.out hE) hX hLw uq).mono ?_
                rintro e wf ⟨sp1, kp1, cp1, rfl, hp1, hE2⟩
                replace hX := hX.ext hE2
                replace hLw := hLw.ext hE2
                replace hE := hE.trans hE2
                replace hE8 := hE8.trans hE2
                clear hE2
                go_wp2_with (fail)
                refine (rpath_any sx nx cx lx root sl M cl (LL.take M) q _ hX hLw).mono ?_
                rintro e wg ⟨sp2, kp2, cp2, rfl, hp2, hE2⟩
                replace hX := hX.ext hE2
                replace hLw := hLw.ext hE2
                replace hE := hE.trans hE2
                replace hE8 := hE8.trans hE2
                replace hp1 := hp1.ext hE2
                clear hE2
                go_wp2_with (fail)
                refine (ints_any sp1 sp2 kp1 kp2 cp1 cp2 _ _ true _ hp1 hp2 (Lib.hid (by simp))).mono ?_
                rintro e wh ⟨rfl, qh, eh⟩
                replace hE8 : Ext wa wh := by rw [eh]; exact hE8.drewN qh
                clear eh
                go_wp2_with (fail)
                go_roundw
                case rel => exact ⟨y + 1, by omega, by go_num, Lib.hid hE8⟩
                case measure => simp [intOf]; omega
              · obtain rfl : y = 2 := by omega
                go_wp2_with (fail)
                go_roundw
                case rel => exact ⟨.inr (.inl rfl), Lib.hid (HEc.out.trans hEy.out)⟩
                case measure => simp [intOf]
        · as_aux_lemma =>
            have hLw := HL6.out.ext hEi.out

            have hEj := hEi.out
            go_wp2_with (fail)
            have c1 := right_any sx nx cx lx root s6 m6 c6 Ms wr (tab_ext HT.out hE) hX hLw
            obtain ⟨g, hg⟩ : ∃ g, RowKit.Hid (rightS lx root Ms = g) := ⟨_, Lib.hid rfl⟩
            rw [hg.out] at c1
            refine c1.mono ?_
            clear c1
            rintro e w8 ⟨rfl, hE2⟩
            replace hX := hX.ext hE2
            replace hLw := hLw.ext hE2
            replace hE := hE.trans hE2
            replace hE4 := hE4.trans hE2
            replace hEj := hEj.trans hE2
            clear hE2
            go_wp2_with (fail)
            have c1 := rright_any sx nx cx lx root s6 m6 c6 Ms w8 hX hLw
            rw [hg.out] at c1
            refine c1.mono ?_
            clear c1
            rintro e w9 ⟨rfl, hE2⟩
            replace hX := hX.ext hE2
            replace hLw := hLw.ext hE2
            replace hE := hE.trans hE2
            replace hE4 := hE4.trans hE2
            replace hEj := hEj.trans hE2
            clear hE2 hqL1 hqL2 hqL3 hqL4 hqL5 hqL6 qL
            go_wp2_with (fail)
            refine (key_any kk w9 hk.1 hk.2).mono ?_
            rintro e w' ⟨rfl, rfl⟩
            obtain ⟨K2, hK2⟩ : ∃ K2, keyOf kk = K2 := ⟨_, rfl⟩
            have uK2 : U64 K2 := by rw [← hK2]; exact keyOf_u kk
            rw [hK2]
            clear hK2
            go_wp2_with (fail)
            have hQ := Lib.hid (WS.row w9 [key, K2] 2 rfl (by omega) (by
              intro x hx
              rcases List.mem_cons.1 hx with rfl | hx
              · exact hkey
              · rw [List.mem_singleton.1 hx]; exact uK2) #[.int .u64 key, .int .u64 K2] rfl)
            have xN := Ext.new w9 (.cells #[.int .u64 key, .int .u64 K2] 25)
            have HX := Lib.hid (hX.ext xN)
            have HLw := Lib.hid (hLw.ext xN)
            have HEa := Lib.hid (hE.trans xN)
            have HEb := Lib.hid (hE4.trans xN)
            have HEc := Lib.hid (hEj.trans xN)
            clear hX hLw hE hE4 xN hEj
            generalize w9.heap.size = B2 at hQ ⊢
            generalize w9.alloc (.cells #[.int .u64 key, .int .u64 K2] 25) = wa at hQ HX HLw HEa HEb HEc ⊢
            go_loopw [107] (fun jv wr => ∃ y : Nat, y ≤ 2 ∧ jv = .int .i64 y ∧ RowKit.Hid (Ext wa wr)) (fun jv _ => 2 - (intOf jv).toNat)
            case atStart => exact ⟨0, by omega, rfl, Lib.hid (Ext.refl wa)⟩
            case round =>
              obtain ⟨y, hy, rfl, hEy⟩ := hrel
              by_cases hy2 : y < 2
              · have hy3 : (y : Int) < 2 := by omega
                obtain ⟨q, hq, uq, bq, oq, eq, cq⟩ := (hQ.out.ext hEy.out).get (k := y) hy2
                cases eq
                rw [Nat.zero_add] at cq
                have hX := HX.out.ext hEy.out
                have hLw := HLw.out.ext hEy.out
                have hE := HEa.out.trans hEy.out
                have hE8 := hEy.out
                clear hq
                obtain ⟨f1, f2, hf⟩ : ∃ f1 f2, RowKit.Hid (findS lx root Ms q = (f1, f2)) := ⟨_, _, Lib.hid rfl⟩
                obtain ⟨n1, n2, hn⟩ : ∃ n1 n2, RowKit.Hid (nextS lx root Ms q = (n1, n2)) := ⟨_, _, Lib.hid rfl⟩
                go_wp2_with (fail)
                clear cq
                have c1 := find_any sx nx cx lx root s6 m6 c6 Ms q _ (tab_ext HT.out hE) hX hLw uq
                rw [hf.out] at c1
                refine c1.mono ?_
                clear c1
                rintro e wb ⟨rfl, hE2⟩
                replace hX := hX.ext hE2
                replace hLw := hLw.ext hE2
                replace hE := hE.trans hE2
                replace hE8 := hE8.trans hE2
                clear hE2
                go_wp2_with (fail)
                have c1 := rfind_any sx nx cx lx root s6 m6 c6 Ms q _ hX hLw
                rw [hf.out] at c1
                refine c1.mono ?_
                clear c1
                rintro e wc ⟨rfl, hE2⟩
                replace hX := hX.ext hE2
                replace hLw := hLw.ext hE2
                replace hE := hE.trans hE2
                replace hE8 := hE8.trans hE2
                clear hE2
                go_wp2_with (fail)
                have c1 := next_any sx nx cx lx root s6 m6 c6 Ms q _ (tab_ext HT.out hE) hX hLw uq
                rw [hn.out] at c1
                refine c1.mono ?_
                clear c1
                rintro e wd ⟨rfl, hE2⟩
                replace hX := hX.ext hE2
                replace hLw := hLw.ext hE2
                replace hE := hE.trans hE2
                replace hE8 := hE8.trans hE2
                clear hE2
                go_wp2_with (fail)
                have c1 := rnext_any sx nx cx lx root s6 m6 c6 Ms q _ hX hLw
                rw [hn.out] at c1
                refine c1.mono ?_
                clear c1
                rintro e we ⟨rfl, hE2⟩
                replace hX := hX.ext hE2
                replace hLw := hLw.ext hE2
                replace hE := hE.trans hE2
                replace hE8 := hE8.trans hE2
                clear hE2
                go_wp2_with (fail)
                refine (path_any sx nx cx lx root s6 m6 c6 Ms q _ (tab_ext HT.out hE) hX hLw uq).mono ?_
                rintro e wf ⟨sp1, kp1, cp1, rfl, hp1, hE2⟩
                replace hX := hX.ext hE2
                replace hLw := hLw.ext hE2
                replace hE := hE.trans hE2
                replace hE8 := hE8.trans hE2
                clear hE2
                go_wp2_with (fail)
                refine (rpath_any sx nx cx lx root s6 m6 c6 Ms q _ hX hLw).mono ?_
                rintro e wg ⟨sp2, kp2, cp2, rfl, hp2, hE2⟩
                replace hX := hX.ext hE2
                replace hLw := hLw.ext hE2
                replace hE := hE.trans hE2
                replace hE8 := hE8.trans hE2
                replace hp1 := hp1.ext hE2
                clear hE2
                go_wp2_with (fail)
                refine (ints_any sp1 sp2 kp1 kp2 cp1 cp2 _ _ true _ hp1 hp2 (Lib.hid (by simp))).mono ?_
                rintro e wh ⟨rfl, qh, eh⟩
                replace hE8 : Ext wa wh := by rw [eh]; exact hE8.drewN qh
                clear eh
                go_wp2_with (fail)
                go_roundw
                case rel => exact ⟨y + 1, by omega, by go_num, Lib.hid hE8⟩
                case measure => simp [intOf]; omega
              · obtain rfl : y = 2 := by omega
                go_wp2_with (fail)
                go_roundw
                case rel => exact ⟨.inr (.inr (.inl rfl)), Lib.hid (HEc.out.trans hEy.out)⟩
                case measure => simp [intOf]
        · as_aux_lemma =>
            have hLw := HL6.out.ext hEi.out

            have hEj := hEi.out
            go_wp2_with (fail)
            have c1 := right_any sx nx cx lx A s6 m6 c6 Ms wr (tab_ext HT.out hE) hX hLw
            obtain ⟨g, hg⟩ : ∃ g, RowKit.Hid (rightS lx A Ms = g) := ⟨_, Lib.hid rfl⟩
            rw [hg.out] at c1
            refine c1.mono ?_
            clear c1
            rintro e w8 ⟨rfl, hE2⟩
            replace hX := hX.ext hE2
            replace hLw := hLw.ext hE2
            replace hE := hE.trans hE2
            replace hE4 := hE4.trans hE2
            replace hEj := hEj.trans hE2
            clear hE2
            go_wp2_with (fail)
            have c1 := rright_any sx nx cx lx A s6 m6 c6 Ms w8 hX hLw
            rw [hg.out] at c1
            refine c1.mono ?_
            clear c1
            rintro e w9 ⟨rfl, hE2⟩
            replace hX := hX.ext hE2
            replace hLw := hLw.ext hE2
            replace hE := hE.trans hE2
            replace hE4 := hE4.trans hE2
            replace hEj := hEj.trans hE2
            clear hE2 hqL1 hqL2 hqL3 hqL4 hqL5 hqL6 qL
            go_wp2_with (fail)
            refine (key_any kk w9 hk.1 hk.2).mono ?_
            rintro e w' ⟨rfl, rfl⟩
            obtain ⟨K2, hK2⟩ : ∃ K2, keyOf kk = K2 := ⟨_, rfl⟩
            have uK2 : U64 K2 := by rw [← hK2]; exact keyOf_u kk
            rw [hK2]
            clear hK2
            go_wp2_with (fail)
            have hQ := Lib.hid (WS.row w9 [key, K2] 2 rfl (by omega) (by
              intro x hx
              rcases List.mem_cons.1 hx with rfl | hx
              · exact hkey
              · rw [List.mem_singleton.1 hx]; exact uK2) #[.int .u64 key, .int .u64 K2] rfl)
            have xN := Ext.new w9 (.cells #[.int .u64 key, .int .u64 K2] 25)
            have HX := Lib.hid (hX.ext xN)
            have HLw := Lib.hid (hLw.ext xN)
            have HEa := Lib.hid (hE.trans xN)
            have HEb := Lib.hid (hE4.trans xN)
            have HEc := Lib.hid (hEj.trans xN)
            clear hX hLw hE hE4 xN hEj
            generalize w9.heap.size = B2 at hQ ⊢
            generalize w9.alloc (.cells #[.int .u64 key, .int .u64 K2] 25) = wa at hQ HX HLw HEa HEb HEc ⊢
            go_loopw [107] (fun jv wr => ∃ y : Nat, y ≤ 2 ∧ jv = .int .i64 y ∧ RowKit.Hid (Ext wa wr)) (fun jv _ => 2 - (intOf jv).toNat)
            case atStart => exact ⟨0, by omega, rfl, Lib.hid (Ext.refl wa)⟩
            case round =>
              obtain ⟨y, hy, rfl, hEy⟩ := hrel
              by_cases hy2 : y < 2
              · have hy3 : (y : Int) < 2 := by omega
                obtain ⟨q, hq, uq, bq, oq, eq, cq⟩ := (hQ.out.ext hEy.out).get (k := y) hy2
                cases eq
                rw [Nat.zero_add] at cq
                have hX := HX.out.ext hEy.out
                have hLw := HLw.out.ext hEy.out
                have hE := HEa.out.trans hEy.out
                have hE8 := hEy.out
                clear hq
                obtain ⟨f1, f2, hf⟩ : ∃ f1 f2, RowKit.Hid (findS lx A Ms q = (f1, f2)) := ⟨_, _, Lib.hid rfl⟩
                obtain ⟨n1, n2, hn⟩ : ∃ n1 n2, RowKit.Hid (nextS lx A Ms q = (n1, n2)) := ⟨_, _, Lib.hid rfl⟩
                go_wp2_with (fail)
                clear cq
                have c1 := find_any sx nx cx lx A s6 m6 c6 Ms q _ (tab_ext HT.out hE) hX hLw uq
                rw [hf.out] at c1
                refine c1.mono ?_
                clear c1
                rintro e wb ⟨rfl, hE2⟩
                replace hX := hX.ext hE2
                replace hLw := hLw.ext hE2
                replace hE := hE.trans hE2
                replace hE8 := hE8.trans hE2
                clear hE2
                go_wp2_with (fail)
                have c1 := rfind_any sx nx cx lx A s6 m6 c6 Ms q _ hX hLw
                rw [hf.out] at c1
                refine c1.mono ?_
                clear c1
                rintro e wc ⟨rfl, hE2⟩
                replace hX := hX.ext hE2
                replace hLw := hLw.ext hE2
                replace hE := hE.trans hE2
                replace hE8 := hE8.trans hE2
                clear hE2
                go_wp2_with (fail)
                have c1 := next_any sx nx cx lx A s6 m6 c6 Ms q _ (tab_ext HT.out hE) hX hLw uq
                rw [hn.out] at c1
                refine c1.mono ?_
                clear c1
                rintro e wd ⟨rfl, hE2⟩
                replace hX := hX.ext hE2
                replace hLw := hLw.ext hE2
                replace hE := hE.trans hE2
                replace hE8 := hE8.trans hE2
                clear hE2
                go_wp2_with (fail)
                have c1 := rnext_any sx nx cx lx A s6 m6 c6 Ms q _ hX hLw
                rw [hn.out] at c1
                refine c1.mono ?_
                clear c1
                rintro e we ⟨rfl, hE2⟩
                replace hX := hX.ext hE2
                replace hLw := hLw.ext hE2
                replace hE := hE.trans hE2
                replace hE8 := hE8.trans hE2
                clear hE2
                go_wp2_with (fail)
                refine (path_any sx nx cx lx A s6 m6 c6 Ms q _ (tab_ext HT.out hE) hX hLw uq).mono ?_
                rintro e wf ⟨sp1, kp1, cp1, rfl, hp1, hE2⟩
                replace hX := hX.ext hE2
                replace hLw := hLw.ext hE2
                replace hE := hE.trans hE2
                replace hE8 := hE8.trans hE2
                clear hE2
                go_wp2_with (fail)
                refine (rpath_any sx nx cx lx A s6 m6 c6 Ms q _ hX hLw).mono ?_
                rintro e wg ⟨sp2, kp2, cp2, rfl, hp2, hE2⟩
                replace hX := hX.ext hE2
                replace hLw := hLw.ext hE2
                replace hE := hE.trans hE2
                replace hE8 := hE8.trans hE2
                replace hp1 := hp1.ext hE2
                clear hE2
                go_wp2_with (fail)
                refine (ints_any sp1 sp2 kp1 kp2 cp1 cp2 _ _ true _ hp1 hp2 (Lib.hid (by simp))).mono ?_
                rintro e wh ⟨rfl, qh, eh⟩
                replace hE8 : Ext wa wh := by rw [eh]; exact hE8.drewN qh
                clear eh
                go_wp2_with (fail)
                go_roundw
                case rel => exact ⟨y + 1, by omega, by go_num, Lib.hid hE8⟩
                case measure => simp [intOf]; omega
              · obtain rfl : y = 2 := by omega
                go_wp2_with (fail)
                go_roundw
                case rel => exact ⟨.inr (.inr (.inr rfl)), Lib.hid (HEc.out.trans hEy.out)⟩
                case measure => simp [intOf]
        · go_wp2_with (fail)
          go_roundw
          case rel => exact ⟨jx + 1, by omega, by go_num, Lib.hid hE4⟩
          case measure => simp [intOf]; omega
    · obtain rfl : jx = 2 := by omega
      go_wp2_with (fail)
      go_ret
      exact ⟨rfl, HE.out.trans hEq.out⟩

end Go.Proofs.YtnmeakkehonnmaaDoor.Trp
