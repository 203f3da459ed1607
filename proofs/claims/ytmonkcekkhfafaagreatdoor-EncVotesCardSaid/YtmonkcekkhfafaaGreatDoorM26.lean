/-
  Parts of a proof, one behind the other: EncTree, EncAll, EncDec, EncTaken, EncTable. Each says its own conditions.
-/
import Derived.Test.YtmonkcekkhfafaaGreatDoorM20
import Derived.Test.YtmonkcekkhfafaaGreatDoorM23
import Derived.Test.YtmonkcekkhfafaaGreatDoorM25

/- EncTree:
  The landed layTree: the words of an Order. Conditions: the block for the words lies, the package's table lies, the state's keys are an Order's.
-/
namespace Go.Proofs.YtmonkcekkhfafaaGreatDoor.Enc
open Go.RowKit (Below intOf)
open Go.Proofs.YtmonkcekkhfafaaGreatDoor.Aut
open Go.Proofs.YtmonkcekkhfafaaGreatDoor.Reg (cf bx fits_any)

def quads : List Int → List Int → List (Int × Int) → List Int
  | r :: rs, v :: vs, p :: ps => r :: v :: p.1 :: p.2 :: quads rs vs ps
  | _, _, _ => []
theorem quads_snoc : ∀ (rs vs : List Int) (ps : List (Int × Int)) (r v : Int) (p : Int × Int), vs.length = rs.length → ps.length = rs.length → quads (rs ++ [r]) (vs ++ [v]) (ps ++ [p]) = quads rs vs ps ++ [r, v, p.1, p.2]
  | [], [], [], _, _, _, _, _ => rfl
  | a :: rs, b :: vs, c :: ps, r, v, p, h1, h2 => by simp only [List.cons_append, quads]; rw [quads_snoc rs vs ps r v p (by simpa using h1) (by simpa using h2)]
  | [], _ :: _, _, _, _, _, h, _ => by simp at h
  | [], [], _ :: _, _, _, _, _, h => by simp at h
  | _ :: _, [], _, _, _, _, h, _ => by simp at h
  | _ :: _, _ :: _, [], _, _, _, _, h => by simp at h
theorem quads_len : ∀ (rs vs : List Int) (ps : List (Int × Int)), vs.length = rs.length → ps.length = rs.length → (quads rs vs ps).length = 4 * rs.length
  | [], [], [], _, _ => rfl
  | a :: rs, b :: vs, c :: ps, h1, h2 => by simp only [quads, List.length_cons]; rw [quads_len rs vs ps (by simpa using h1) (by simpa using h2)]; omega
  | [], _ :: _, _, h, _ => by simp at h
  | [], [], _ :: _, _, h => by simp at h
  | _ :: _, [], _, h, _ => by simp at h
  | _ :: _, _ :: _, [], _, h => by simp at h
def ranksO (s : St) : List Int := s.keys.map rank
/-- What is laid of an Order, without the zeros behind it. -/
def encO (s : St) : List Int := [(s.keys.length : Int), (Trp.tree (ranksO s) 0).1] ++ quads (ranksO s) s.vals (Trp.tree (ranksO s) 0).2

theorem ns_two (w : World) (x y : Int) (hx : I64 x) (hy : I64 y) : NS (w.alloc (.cells #[.int .i64 x, .int .i64 y] 3)) (some ⟨w.heap.size, 0, none⟩) 2 2 [x, y] := by
  have h := Cb.new w [.int .i64 x, .int .i64 y] 3
  refine ⟨rfl, by omega, by omega, by omega, fun j z hz => ?_⟩
  rcases j with _ | _ | j
  · cases hz; exact ⟨hx, _, 0, rfl, h.c 0 _ rfl⟩
  · cases hz; exact ⟨hy, _, 0, rfl, h.c 1 _ rfl⟩
  · simp at hz
theorem ws_two (w : World) (x y : Int) (hx : U64 x) (hy : U64 y) : WS (w.alloc (.cells #[.int .u64 x, .int .u64 y] 26)) (some ⟨w.heap.size, 0, none⟩) 2 2 [x, y] := by
  have h := Cb.new w [.int .u64 x, .int .u64 y] 26
  refine ⟨rfl, by omega, by omega, by omega, fun j z hz => ?_⟩
  rcases j with _ | _ | j
  · cases hz; exact ⟨hx, _, 0, rfl, h.c 0 _ rfl⟩
  · cases hz; exact ⟨hy, _, 0, rfl, h.c 1 _ rfl⟩
  · simp at hz
theorem ns_pair {w : World} {b o : Nat} {x y : Int} (hx : I64 x) (hy : I64 y) (h0 : w.cell? ⟨b, o, none⟩ = some (.int .i64 x)) (h1 : w.cell? ⟨b, o + 1, none⟩ = some (.int .i64 y)) : NS w (some ⟨b, o, none⟩) 2 2 [x, y] := by
  refine ⟨rfl, by omega, by omega, by omega, fun j z hz => ?_⟩
  rcases j with _ | _ | j
  · cases hz; exact ⟨hx, _, o, rfl, h0⟩
  · cases hz; exact ⟨hy, _, o, rfl, h1⟩
  · simp at hz
theorem Lay.ls {w0 w w' : World} {A n : Nat} {L : List Int} {d : Nat} (h : Lay w0 w A n L d) (k : Kp A w w') {sl : Option Addr} {m c : Nat} {P : List (Int × Int)} (hl : Trp.LS w sl m c P) : Trp.LS w' sl m c P :=
  ⟨hl.1, hl.2.1, hl.2.2.1, hl.2.2.2.1, fun j x hx => by
    obtain ⟨hu, b, o, hs, h0, h1⟩ := hl.2.2.2.2 j x hx
    obtain ⟨n1, n2⟩ := h.off2 h0 h1
    exact ⟨hu, b, o, hs, k.cell h0 n1 n2, k.cell h1 n1 n2⟩⟩
set_option maxHeartbeats 8000000 in
set_option maxRecDepth 100000 in
theorem tree_lays (a v t : Sl) (s : St) (w0 w : World) (A n m : Nat) (hT2 : Tab w0) (hL : LP w0 w A n []) (hn : n = 2 + 4 * m) (hm : m ≤ 256) (hS : SS w0 a v t s) (hK : KeysOk 4 m s) :
    Calls Tryz.prog 77 #[sv s.reg a v t s.closed, fv A] w (LQ w0 A n (encO s) w) := by
  have e1 : Ext w (w.alloc (sb s.reg a v t s.closed)) := Ext.new w _
  have hA := hL.lt
  have HB : RowKit.Hid (Cb (w.alloc (sb s.reg a v t s.closed)) w.heap.size (sc s.reg a v t s.closed)) := Lib.hid (Cb.new w _ _)
  have HL := Lib.hid (hL.kp e1)
  have HK := Lib.hid (Kp.of_ext (A := A) e1)
  have HS := Lib.hid hS
  have HKo := Lib.hid hK
  have hkl : s.keys.length ≤ m := by have := hK.1; omega
  have hkn : a.n = s.keys.length := hS.2.1.len.symm
  have hvn : s.vals.length = s.keys.length := by have := hK.2.1; rwa [show valued 4 = true from rfl, if_pos rfl] at this
  have Hvn := Lib.hid hvn
  have Hkn := Lib.hid hkn
  have HT := Lib.hid hT2
  have hA2 : w.heap.size + 1 ≠ A ∧ w.heap.size + 1 ≠ A + 1 ∧ w.heap.size ≠ A ∧ w.heap.size ≠ A + 1 := by omega
  have Hne := Lib.hid hA2
  have hxn : a.n ≤ 256 := by omega
  have hmk := fun W => make_words a.n (by omega) W
  have HM := Lib.hid (made_own a.n (by omega) (w.alloc (sb s.reg a v t s.closed)))
  have Hxn := Lib.hid hxn
  have Hn := Lib.hid hn
  have Hkm : RowKit.Hid (a.n ≤ m) := Lib.hid (by omega)
  obtain ⟨sr, sk, su, sw, scl⟩ := s
  obtain ⟨ka, kn, kc⟩ := a
  obtain ⟨va, vn, vc⟩ := v
  clear hL e1 hA hS hK hkl hkn hvn hT2 hA2 hn
  dsimp only [sv, sb, sc, World.size_alloc] at *
  have HE := Lib.hid (HL.out.e)
  obtain ⟨s0, s1, s2, s3, s4⟩ := HB.out.five
  go_enter Tryz.func77, Tryz.ntmps77
  go_wp2_with (fail)
  go_loopg [19] kn (fun kx s19 wr => ∃ i : Nat, s19 = .int .i64 i ∧ i ≤ kn ∧ kn - i ≤ kx ∧ RowKit.Hid (Ext (w.alloc (.cells #[.int .u64 sr, .slice ka kn kc, .slice va vn vc, .slice t.a t.n t.c, .bool scl] 30)) wr) ∧ RowKit.Hid (∃ ys : List Int, ys.length = kn ∧ (∀ y ∈ ys, U64 y) ∧ (∀ j, j < i → ys[j]? = (sk.map rank)[j]?) ∧ wr.ownsRow (w.heap.size + 1) 26 1 (.slice (some ⟨w.heap.size + 1, 0, none⟩) kn kn) kn (flatWS ys)))
  case atStart => exact ⟨0, rfl, Nat.zero_le _, by omega, Lib.hid (Ext.new _ _), Lib.hid ⟨List.replicate kn 0, by simp, fun y hy => by rw [List.eq_of_mem_replicate hy]; unfold U64; simp, fun j hj => absurd hj (Nat.not_lt_zero _), by have h := HM.out; simp only [World.size_alloc] at h; exact h⟩⟩
  case round =>
    obtain ⟨i, rfl, hi, hg, S1, D⟩ := hrel
    obtain ⟨ys, y1, y2, y3, h4⟩ := D.out
    by_cases hlt : i < kn
    · have hlt2 : (i : Int) < kn := by omega
      obtain ⟨x, hy, hyu, b, o, rfl, hyc⟩ := (HS.out.2.1.ext HE.out).get hlt
      have cm := S1.out.cell hyc
      have gc := h4.cellAt i (by omega)
      rw [flatWS_0] at gc
      have hyi : ys[i]? = some (ys[i]'(by omega)) := List.getElem?_eq_getElem (by omega)
      rw [hyi] at gc
      simp only [Option.map_some] at gc
      have gf := h4.frozenAt i
      have HRk := Lib.hid (fun W => rank_any x W hyu.1 hyu.2)
      have HP := Lib.hid (own_put h4 i (rank x))
      have HY2 := Lib.hid y2
      have HY3 := Lib.hid y3
      have HY := Lib.hid hy
      have HU : RowKit.Hid (U64 (rank x)) := Lib.hid ⟨rank_lo x hyu.1 hyu.2, rank_hi x hyu.1 hyu.2⟩
      generalize ys[i]'(by omega) = old at *
      generalize hrx : rank x = rx at *
      have Hrx := Lib.hid hrx
      clear hyc hyu hy y2 y3 h4 D HM hyi hrx HL HK HB HS HKo HT HE s0 s1 s2 s3 s4 Hvn Hkn Hne
      go_wp2_with (first | (go_at_call 25; (with_reducible refine (HRk.out _).mono ?_); rintro e w' ⟨rfl, rfl⟩))
      go_roundg (kn - (i + 1))
      case measure => omega
      case rel =>
        refine ⟨i + 1, by first | rfl | (congr 1; omega), by omega, by omega, Lib.hid (S1.out.setCell (by simp) _), Lib.hid ⟨ys.set i rx, by simpa using y1, fun y hy => ?_, fun j hj => ?_, HP.out⟩⟩
        · rcases List.mem_or_eq_of_mem_set hy with h | h
          · exact HY2.out y h
          · rw [h]; exact HU.out
        · by_cases ej : j = i
          · subst ej
            rw [List.getElem?_set_self (by omega), List.getElem?_map, HY.out, ← Hrx.out]; rfl
          · rw [List.getElem?_set_ne (Ne.symm ej)]; exact HY3.out j (by omega)
    · obtain rfl : i = kn := by omega
      have hlt2 : ¬ (i : Int) < i := by omega
      have hq : ys = sk.map rank := eq_all y1 (by rw [List.length_map]; exact Hkn.out.symm) y3
      subst hq
      have hWr : WS wr (some ⟨w.heap.size + 1, 0, none⟩) i i (sk.map rank) := WS.of_own h4 y1 (by omega) y2
      have hEr : Ext w0 wr := HE.out.trans S1.out
      have hBd := Trp.build_any (some ⟨w.heap.size + 1, 0, none⟩) i i (sk.map rank) wr (Trp.tab_ext HT.out hEr) hWr (by omega)
      have hRis : Trp.Rising (sk.map rank) := by
        have h := HKo.out.2.2.2
        unfold Trp.Rising
        rw [List.pairwise_map]
        exact h
      have hlen : (sk.map rank).length = i := y1
      rw [Trp.build_ok (by omega) hRis] at hBd
      have htl := Trp.tree_len _ (sk.map rank) 0 rfl
      have htb := Trp.tree_bd _ (sk.map rank) 0 rfl
      have hrb := Trp.tree_root_bd (sk.map rank) 0
      rw [hlen] at htl hrb
      obtain ⟨⟨rt, P⟩, hrP⟩ : ∃ q, Trp.tree (sk.map rank) 0 = q := ⟨_, rfl⟩
      rw [hrP] at hBd htl htb hrb
      replace HL := Lib.hid (HL.out.kp S1.out)
      replace HK := Lib.hid (HK.out.trans (Kp.of_ext S1.out))
      replace HB := Lib.hid (HB.out.ext S1.out)
      have HBd := Lib.hid hBd
      have HrP := Lib.hid hrP
      have Htl := Lib.hid htl
      have Htb := Lib.hid htb
      have Hrb := Lib.hid hrb
      have Hrs := Lib.hid hlen
      have HW := Lib.hid hWr
      have HRu := Lib.hid y2
      have HHd : RowKit.Hid (encO ⟨sr, sk, su, sw, scl⟩ = [(i : Int), rt] ++ quads (sk.map rank) su P) := Lib.hid (by unfold encO ranksO; dsimp only; rw [hrP]; rw [← Hkn.out])
      generalize sk.map rank = rs at *
      clear D y1 y2 y3 h4 HM hWr hEr hBd hRis hlen htl htb hrb hrP S1 HE s0 s1 s2 s3 s4 hlt hi hg
      dsimp only at *
      go_wp2_with (fail)
      refine HBd.out.mono ?_
      rintro e w5 ⟨e5, ls, lm, lc, he, hLS⟩
      dsimp only at he hLS
      subst he
      have hi0 : I64 (i : Int) := by unfold I64; omega
      have hr0 : I64 rt := by have := Hrb.out; unfold I64; omega
      have hl := ns_two w5 i rt hi0 hr0
      have e6 := e5.trans (Ext.new w5 (.cells #[.int .i64 (i : Int), .int .i64 rt] 3))
      replace HL := Lib.hid (HL.out.kp e6)
      replace HK := Lib.hid (HK.out.trans (Kp.of_ext e6))
      replace HB := Lib.hid (HB.out.ext e6)
      replace HW := Lib.hid (HW.out.ext e6)
      have HLS := Lib.hid (Trp.LS.ext hLS (Ext.new w5 (.cells #[.int .i64 (i : Int), .int .i64 rt] 3)))
      clear HBd e5 e6 hLS
      go_wp2_with (fail)
      refine (words_int _ _ _ _ _ hl (fun x hx => by
        have := Hrb.out
        rcases List.mem_cons.1 hx with h | h
        · rw [h]; omega
        · rw [List.mem_singleton.1 h]; omega)).mono ?_
      rintro e w7 ⟨⟨xa, xn, xc⟩, he, hX, e7, _⟩
      dsimp only at he hX
      subst he
      replace HL := Lib.hid (HL.out.kp e7)
      replace HK := Lib.hid (HK.out.trans (Kp.of_ext e7))
      replace HB := Lib.hid (HB.out.ext e7)
      replace HW := Lib.hid (HW.out.ext e7)
      replace HLS := Lib.hid (Trp.LS.ext HLS.out e7)
      have hx : xn = 2 := by have := hX.len; simpa using this.symm
      subst hx
      have HX := Lib.hid hX
      clear hl hX e7 hi0 hr0
      go_wp2_with (fail)
      refine (lay_pad HL.out HX.out (by decide) (by have := Hn.out; simp; omega)).mono ?_
      rintro e w8 ⟨he, L8, K8⟩
      subst he
      replace HB := Lib.hid (K8.cb HB.out Hne.out.2.2.1 Hne.out.2.2.2)
      replace HW := Lib.hid (K8.ws HW.out (fun g o e => by cases e; exact Hne.out.1) (fun g o e => by cases e; exact Hne.out.2.1))
      replace HLS := Lib.hid (Lay.ls HL.out K8 HLS.out)
      replace HL := Lib.hid L8
      replace HK := Lib.hid (HK.out.trans K8)
      clear HX L8 K8
      go_wp2_with (fail)
      go_loopg [45] i (fun kx s45 wr => ∃ j : Nat, s45 = .int .i64 j ∧ j ≤ i ∧ i - j ≤ kx ∧ RowKit.Hid (LP w0 wr A n ([(i : Int), rt] ++ quads (rs.take j) (su.take j) (P.take j))) ∧ RowKit.Hid (Kp A w wr) ∧ RowKit.Hid (Cb wr w.heap.size [.int .u64 sr, .slice ka i kc, .slice va vn vc, .slice t.a t.n t.c, .bool scl]) ∧ RowKit.Hid (WS wr (some ⟨w.heap.size + 1, 0, none⟩) i i rs) ∧ RowKit.Hid (Trp.LS wr ls lm lc P))
      case atStart => exact ⟨0, rfl, Nat.zero_le _, by omega, HL, HK, HB, HW, HLS⟩
      case round =>
        clear HL HK HB HW HLS
        obtain ⟨j, rfl, hj, hg, HL, HK, HB, HW, HLS⟩ := hrel
        by_cases hlt : j < i
        · have hlt2 : (j : Int) < i := by omega
          have hvn : vn = i := by
            have h := HS.out.2.2.1.len
            have h2 := Hvn.out
            have h3 := Hkn.out
            dsimp only at h h2 h3
            omega
          obtain ⟨r, hr, hru, b1, o1, hb1, hrc⟩ := HW.out.get hlt
          cases hb1
          rw [Nat.zero_add] at hrc
          obtain ⟨v', hv, hvu, b2, o2, hva, hvc⟩ := (HS.out.2.2.1.ext (Lay.e HL.out)).get (k := j) (by dsimp only; omega)
          dsimp only at hva
          subst hva
          have hjl : j < P.length := by rw [Htl.out]; exact hlt
          obtain ⟨⟨p1, p2⟩, hp⟩ : ∃ p, P[j]? = some p := ⟨_, List.getElem?_eq_getElem hjl⟩
          obtain ⟨hpu, b3, o3, hls, hp0, hp1⟩ := HLS.out.2.2.2.2 j _ hp
          have hpb := Htb.out _ (List.mem_of_getElem? hp)
          have hlm : lm = i := HLS.out.1.symm.trans Htl.out
          subst hls
          dsimp only at hp0 hp1 hpu hpb
          have hq : [(i : Int), rt] ++ quads (rs.take (j + 1)) (su.take (j + 1)) (P.take (j + 1)) = ([(i : Int), rt] ++ quads (rs.take j) (su.take j) (P.take j) ++ [r, v']) ++ [p1, p2] := by
            have hsl : su.length = i := Hvn.out.trans Hkn.out.symm
            rw [take_snoc hr, take_snoc hv, take_snoc hp, quads_snoc _ _ _ _ _ _ (by rw [List.length_take, List.length_take, hsl, Hrs.out]) (by rw [List.length_take, List.length_take, Htl.out, Hrs.out])]
            simp
          have hql : ([(i : Int), rt] ++ quads (rs.take j) (su.take j) (P.take j)).length = 2 + 4 * j := by
            have hsl : su.length = i := Hvn.out.trans Hkn.out.symm
            rw [List.length_append, quads_len _ _ _ (by rw [List.length_take, List.length_take, hsl, Hrs.out]) (by rw [List.length_take, List.length_take, Htl.out, Hrs.out]), List.length_take, Hrs.out]
            simp; omega
          have Hq := Lib.hid hq
          have Hql := Lib.hid hql
          have Hp := Lib.hid (And.intro hpu hpb)
          have Hrv := Lib.hid (And.intro hru hvu)
          have hP0 := Lib.hid (And.intro hp0 hp1)
          have hjv : (j : Int) < vn := by omega
          have hjm : (j : Int) < lm := by omega
          obtain ⟨s0, s1, s2, s3, s4⟩ := HB.out.five
          clear hq hql hr hv hp hru hvu hpu hpb hp0 hp1 hjl hvn hlm
          go_wp2_with (fail)
          have hl := ws_two wr r v' Hrv.out.1 Hrv.out.2
          have e6 := Ext.new wr (.cells #[.int .u64 r, .int .u64 v'] 26)
          refine (words_u64 _ _ _ _ _ hl).mono ?_
          rintro e w9 ⟨⟨ya, yn, yc⟩, he, hX, e9, _⟩
          dsimp only at he hX
          subst he
          have e10 := e6.trans e9
          replace HL := Lib.hid (HL.out.kp e10)
          replace HK := Lib.hid (HK.out.trans (Kp.of_ext e10))
          replace HB := Lib.hid (HB.out.ext e10)
          replace HW := Lib.hid (HW.out.ext e10)
          replace HLS := Lib.hid (Trp.LS.ext HLS.out e10)
          replace hP0 := Lib.hid (And.intro (e10.cell hP0.out.1) (e10.cell hP0.out.2))
          have hx : yn = 2 := by have := hX.len; simpa using this.symm
          subst hx
          have HX := Lib.hid hX
          clear hl hX e6 e9 e10 s0 s1 s2 s3 s4 hrc hvc
          go_wp2_with (fail)
          refine (lay_pad HL.out HX.out (by decide) (by have := Hkm.out; have := Hn.out; rw [Hql.out]; omega)).mono ?_
          rintro e w11 ⟨he, L11, K11⟩
          subst he
          have hP1 := Lay.off2 HL.out hP0.out.1 hP0.out.2
          replace hP0 := Lib.hid (And.intro (K11.cell hP0.out.1 hP1.1 hP1.2) (K11.cell hP0.out.2 hP1.1 hP1.2))
          replace HB := Lib.hid (K11.cb HB.out Hne.out.2.2.1 Hne.out.2.2.2)
          replace HW := Lib.hid (K11.ws HW.out (fun g o e => by cases e; exact Hne.out.1) (fun g o e => by cases e; exact Hne.out.2.1))
          replace HLS := Lib.hid (Lay.ls HL.out K11 HLS.out)
          replace HL := Lib.hid L11
          replace HK := Lib.hid (HK.out.trans K11)
          clear HX L11 K11 hP1
          go_wp2_with (fail)
          refine (words_int _ _ _ [p1, p2] _ (ns_pair Hp.out.1.1 Hp.out.1.2 hP0.out.1 hP0.out.2) (fun x hx => by
            have := Hp.out.2
            rcases List.mem_cons.1 hx with h | h
            · rw [h]; exact this.1.1
            · rw [List.mem_singleton.1 h]; exact this.2.1)).mono ?_
          rintro e w12 ⟨⟨za, zn, zc⟩, he, hX, e12, _⟩
          dsimp only at he hX
          subst he
          replace HL := Lib.hid (HL.out.kp e12)
          replace HK := Lib.hid (HK.out.trans (Kp.of_ext e12))
          replace HB := Lib.hid (HB.out.ext e12)
          replace HW := Lib.hid (HW.out.ext e12)
          replace HLS := Lib.hid (Trp.LS.ext HLS.out e12)
          have hx : zn = 2 := by have := hX.len; simpa using this.symm
          subst hx
          have HX := Lib.hid hX
          clear hX e12 hP0
          go_wp2_with (fail)
          refine (lay_pad HL.out HX.out (by decide) (by have := Hkm.out; have := Hn.out; rw [List.length_append, Hql.out]; simp; omega)).mono ?_
          rintro e w13 ⟨he, L13, K13⟩
          subst he
          replace HB := Lib.hid (K13.cb HB.out Hne.out.2.2.1 Hne.out.2.2.2)
          replace HW := Lib.hid (K13.ws HW.out (fun g o e => by cases e; exact Hne.out.1) (fun g o e => by cases e; exact Hne.out.2.1))
          replace HLS := Lib.hid (Lay.ls HL.out K13 HLS.out)
          replace HL := Lib.hid L13
          replace HK := Lib.hid (HK.out.trans K13)
          clear HX L13 K13
          go_wp2_with (fail)
          go_roundg (i - (j + 1))
          case measure => omega
          case rel => exact ⟨j + 1, by first | rfl | (congr 1), by omega, by omega, Lib.hid (by rw [Hq.out]; exact HL.out), HK, HB, HW, HLS⟩
        · obtain rfl : j = i := by omega
          have hlt2 : ¬ (j : Int) < j := by omega
          have hFin : encO ⟨sr, sk, su, sw, scl⟩ = [(j : Int), rt] ++ quads (rs.take j) (su.take j) (P.take j) := by
            have hsl : su.length = j := Hvn.out.trans Hkn.out.symm
            rw [HHd.out, List.take_of_length_le (by rw [Hrs.out]; exact Nat.le_refl _), List.take_of_length_le (by rw [hsl]; exact Nat.le_refl _), List.take_of_length_le (by rw [Htl.out]; exact Nat.le_refl _)]
          have HF := Lib.hid (show LQ w0 A n (encO ⟨sr, sk, su, sw, scl⟩) w (.returned (.tuple #[])) wr from ⟨rfl, by rw [hFin]; exact HL.out, HK.out⟩)
          clear hFin HL HK HB HW HLS HHd
          go_wp2_with (fail)
          go_end0
          exact ⟨rfl, HF.out.2.1, HF.out.2.2⟩

set_option maxHeartbeats 4000000 in
set_option maxRecDepth 100000 in
theorem lays_ord (p : Int) (m : Nat) (a v t : Sl) (s : St) (w0 w : World) (A n : Nat) (hT2 : Tab w0) (hL : LP w0 w A n []) (hn : n = 2 + 4 * m) (hm : m ≤ 256) (hS : SS w0 a v t s) (hK : KeysOk 4 m s) :
    Calls Tryz.prog 38 #[cf 4 p m, sv s.reg a v t s.closed, fv A] w (LQ w0 A n (encO s) w) := by
  have e1 : Ext w ((w.alloc (bx 4 p m)).alloc (sb s.reg a v t s.closed)) := (Ext.new w _).alloc _
  have HK := Lib.hid (Kp.of_ext (A := A) e1)
  have HTr := Lib.hid (tree_lays a v t s w0 _ A n m hT2 (hL.kp e1) hn hm hS hK)
  obtain ⟨s0, s1, s2, s3, s4⟩ : Five ((w.alloc (bx 4 p m)).alloc (sb s.reg a v t s.closed)) (w.heap.size + 1) s.reg a v t s.closed := (both_new w 4 p m s.reg a v t s.closed).2.1
  obtain ⟨sr, sk, su, sw, scl⟩ := s
  clear hL hS hK e1 hT2 hn
  dsimp only [cf, bx, sv, sb] at *
  go_enter Tryz.func38, Tryz.ntmps38
  go_wp2_with (fail)
  refine HTr.out.mono ?_
  rintro e w3 ⟨he, L3, K3⟩
  subst he
  have HF := Lib.hid (And.intro L3 (HK.out.trans K3))
  clear L3 K3 HTr HK s0 s1 s2 s3 s4
  go_wp2_with (fail)
  go_end0
  exact ⟨rfl, HF.out.1, HF.out.2⟩

end Go.Proofs.YtmonkcekkhfafaaGreatDoor.Enc

/- EncAll:
  The landed Enc of an Order, and where it refuses; the words of registers, ballots and Orders. Conditions: the packages' tables lie; the state's lists are there.
-/
namespace Go.Proofs.YtmonkcekkhfafaaGreatDoor.Enc
open Go.RowKit (Below intOf)
open Go.Proofs.YtmonkcekkhfafaaGreatDoor.Aut
open Go.Proofs.YtmonkcekkhfafaaGreatDoor.Reg (cf bx fits_any)

/-- An Order's words. -/
def encT (m : Nat) (s : St) : List Int := encO s ++ List.replicate (2 + 4 * m - (encO s).length) 0
theorem encO_len {m : Nat} {s : St} (h : KeysOk 4 m s) : (encO s).length = 2 + 4 * s.keys.length := by
  have hv := h.2.1
  rw [show valued 4 = true from rfl, if_pos rfl] at hv
  have hr : (ranksO s).length = s.keys.length := by unfold ranksO; rw [List.length_map]
  unfold encO
  rw [List.length_append, quads_len _ _ _ (by rw [hr]; exact hv) (by rw [Trp.tree_len _ _ _ rfl]), hr]
  simp
theorem encT_len {m : Nat} {s : St} (h : KeysOk 4 m s) : (encT m s).length = 2 + 4 * m := by
  have hl := encO_len h
  have hk := h.1
  unfold encT
  rw [List.length_append, List.length_replicate, hl]; omega
theorem enc_ord (p m : Int) (a v t : Sl) (s : St) (w : World) (hT : Reg.Tab w) (hT2 : Tab w) (hS : SS w a v t s) (hR : rightS 4 p m s = true) :
    Calls Tryz.prog 14 #[cf 4 p m, sv s.reg a v t s.closed] w (EnE (encT m.toNat s, 0) w) := by
  have hb := fits_of (right_fits hR)
  obtain ⟨q, rfl⟩ : ∃ q : Nat, m = q := ⟨m.toNat, by omega⟩
  have hK := (right_iff.1 hR).2.2.2.1 rfl
  have hl := encT_len hK
  have ho := encO_len hK
  have hk := hK.1
  rw [Int.toNat_natCast]
  refine enc_yes 4 p q a v t s (encT q s) w hT hT2 hS hR (by rw [hl]; simp [Reg.hom]) (fun a v t w0 w A n _ h2 hP hn hs => ?_) (by rw [hl]; omega)
  rw [hl] at hn
  refine (lays_ord p q a v t s w0 w A n h2 hP hn (by omega) hs hK).mono fun e w' h => ⟨h.1, ⟨(encO s).length, ?_⟩, h.2.2⟩
  have h2 : Lay w0 w' A n (encO s ++ List.replicate (n - (encO s).length) 0) (encO s).length := h.2.1
  rw [hn] at h2 ⊢
  exact h2

set_option maxHeartbeats 4000000 in
set_option maxRecDepth 100000 in
theorem enc_no (k p m : Int) (a v t : Sl) (s : St) (w : World) (hS : SS w a v t s) (hR : rightS k p m s = false) :
    Calls Tryz.prog 14 #[cf k p m, sv s.reg a v t s.closed] w (EnE ([], if fits k p m then 1 else 5) w) := by
  have X0 := Lib.hid ((Ext.new w (bx k p m)).alloc (sb s.reg a v t s.closed))
  have HC : RowKit.Hid (Cb ((w.alloc (bx k p m)).alloc (sb s.reg a v t s.closed)) w.heap.size [.int .i64 k, .int .i64 p, .int .i64 m]) := Lib.hid ((Cb.new w _ _).alloc _)
  have HB : RowKit.Hid (Cb ((w.alloc (bx k p m)).alloc (sb s.reg a v t s.closed)) (w.heap.size + 1) (sc s.reg a v t s.closed)) := Lib.hid (by
    have h := Cb.new (w.alloc (bx k p m)) (sc s.reg a v t s.closed) 30
    rwa [World.size_alloc] at h)
  have HF : RowKit.Hid (∀ W, Calls Tryz.prog 35 #[cf k p m] W fun e w' => e = .returned (.bool (Reg.fits k p m)) ∧ Ext W w') := Lib.hid (fun W => (fits_any k p m W).mono fun _ _ h => ⟨h.1, h.2 ▸ Ext.new W _⟩)
  have HRg : RowKit.Hid (∀ W, Ext w W → _) := Lib.hid (fun W hE => Lan.right_any k p m a v t s W (hS.ext hE))
  rw [hR] at HRg
  obtain ⟨c0, c1, c2⟩ := HC.out.three
  by_cases hf : fits k p m = true
  · have hf' : Reg.fits k p m = true := hf
    rw [hf'] at HF
    rw [if_pos hf]
    obtain ⟨sr, sk, su, sw, scl⟩ := s
    clear hf hf' hR hS
    dsimp only [cf, bx, sb, sc, sv] at *
    go_enter Tryz.func14, Tryz.ntmps14
    go_wp2_with (fail)
    refine (HF.out _).mono ?_
    rintro e w1 ⟨rfl, e1⟩
    replace X0 := Lib.hid (X0.out.trans e1)
    replace HC := Lib.hid (HC.out.ext e1)
    replace HB := Lib.hid (HB.out.ext e1)
    clear HF e1 c0 c1 c2
    obtain ⟨c0, c1, c2⟩ := HC.out.three
    obtain ⟨s0, s1, s2, s3, s4⟩ := HB.out.five
    have HQ := Lib.hid (HRg.out w1 X0.out)
    clear HRg
    go_wp2_with (fail)
    refine HQ.out.mono ?_
    rintro e w2 ⟨rfl, e2⟩
    replace X0 := Lib.hid (X0.out.trans e2)
    clear HQ e2 c0 c1 c2 s0 s1 s2 s3 s4 HC HB
    go_wp2_with (fail)
    go_ret2
    exact ⟨nilSl, rfl, WS.empty _ _ _ (by decide), X0.out⟩
  · have hf' : Reg.fits k p m = false := Bool.eq_false_iff.2 hf
    rw [hf'] at HF
    rw [if_neg hf]
    obtain ⟨sr, sk, su, sw, scl⟩ := s
    clear hf hf' hR hS HRg
    dsimp only [cf, bx, sb, sc, sv] at *
    go_enter Tryz.func14, Tryz.ntmps14
    go_wp2_with (fail)
    refine (HF.out _).mono ?_
    rintro e w1 ⟨rfl, e1⟩
    replace X0 := Lib.hid (X0.out.trans e1)
    clear HF e1 c0 c1 c2 HC HB
    go_wp2_with (fail)
    go_ret2
    exact ⟨nilSl, rfl, WS.empty _ _ _ (by decide), X0.out⟩

end Go.Proofs.YtmonkcekkhfafaaGreatDoor.Enc

/- EncDec:
  The landed Dec, where it is known what taken takes and what Enc makes of that. Conditions: the packages' tables lie; the words are there.
-/
namespace Go.Proofs.YtmonkcekkhfafaaGreatDoor.Enc
open Go.RowKit (Below intOf)
open Go.Proofs.YtmonkcekkhfafaaGreatDoor.Aut
open Go.Proofs.YtmonkcekkhfafaaGreatDoor.Reg (cf bx fits_any)

/-- A state is answered, in rows of its own. -/
def SF (s : St) (w : World) (e : Ending) (w' : World) : Prop := Ext w w' ∧ ∃ k v t, e = .returned (sv s.reg k v t s.closed) ∧ SS w' k v t s ∧ ∀ B, B < w.heap.size → OffS k v t B
/-- A state is told, in rows of its own. -/
def SO (s : St) (w : World) (f : Value → Value) (e : Ending) (w' : World) : Prop := Ext w w' ∧ ∃ k v t, e = .returned (f (sv s.reg k v t s.closed)) ∧ SS w' k v t s ∧ ∀ B, B < w.heap.size → OffS k v t B
theorem offN : ∀ B, OffS nilSl nilSl nilSl B := fun _ => ⟨fun h => absurd h (Nat.lt_irrefl 0), fun h => absurd h (Nat.lt_irrefl 0), fun h => absurd h (Nat.lt_irrefl 0)⟩
theorem ss_put5 {W : World} {k v t : Sl} {s : St} (h : SS W k v t s) {B : Nat} (hb : OffS k v t B) (r : Int) (a b c : Sl) (cl : Bool) : SS (put5 W B r a b c cl) k v t s :=
  ((((h.set hb _ _).set hb _ _).set hb _ _).set hb _ _).set hb _ _
theorem equal_e {s1 s2 : Option Addr} {n m c1 c2 : Nat} {xs ys : List Int} {r : Bool} {w : World} (h1 : WS w s1 n c1 xs) (h2 : WS w s2 m c2 ys) (hr : RowKit.Hid (r = decide (xs = ys))) :
    Calls Tryz.prog 41 #[.slice s1 n c1, .slice s2 m c2] w fun e w' => e = .returned (.bool r) ∧ Ext w w' :=
  (Prb.equal_any s1 s2 n m c1 c2 xs ys r w h1 h2 hr).mono fun _ _ h => ⟨h.1, by obtain ⟨q, hq⟩ := h.2; rw [hq]; exact Ext.draws _ _⟩

/-- What Dec tells. -/
def decR (s : St) (es : List Int) (no : Int) (xs : List Int) : St × Int := if no = 0 ∧ es = xs then (s, 0) else (zeroS, 2)
set_option maxHeartbeats 8000000 in
set_option maxRecDepth 100000 in
theorem dec_of (k p m : Int) (hf : fits k p m = true) (sl : Option Addr) (n c : Nat) (xs : List Int) (w : World) (hT : Reg.Tab w) (hl : WS w sl n c xs) (hlen : (n : Int) = Reg.hom k m) (s : St) (es : List Int) (no : Int)
    (hTk : ∀ W, Ext w W → Calls Tryz.prog 40 #[cf k p m, .slice sl n c] W (SF s W))
    (hEn : ∀ W a v t, Ext w W → SS W a v t s → Calls Tryz.prog 14 #[cf k p m, sv s.reg a v t s.closed] W (EnE (es, no) W)) :
    Calls Tryz.prog 16 #[cf k p m, .slice sl n c] w (SO (decR s es no xs).1 w (fun v => .tuple #[v, .int .i64 (decR s es no xs).2])) := by
  have hn := hl.le
  have HR := Lib.hid hl
  have X0 := Lib.hid ((Ext.new w (bx k p m)).alloc (sb 0 nilSl nilSl nilSl false))
  have HC : RowKit.Hid (Cb ((w.alloc (bx k p m)).alloc (sb 0 nilSl nilSl nilSl false)) w.heap.size [.int .i64 k, .int .i64 p, .int .i64 m]) := Lib.hid ((Cb.new w _ _).alloc _)
  have HB : RowKit.Hid (Cb ((w.alloc (bx k p m)).alloc (sb 0 nilSl nilSl nilSl false)) (w.heap.size + 1) (sc 0 nilSl nilSl nilSl false)) := Lib.hid (by
    have h := Cb.new (w.alloc (bx k p m)) (sc 0 nilSl nilSl nilSl false) 30
    rwa [World.size_alloc] at h)
  have hf' : Reg.fits k p m = true := hf
  have hhm : Reg.home k p m = Reg.hom k m := by unfold Reg.home; rw [if_pos hf']
  have HF : RowKit.Hid (∀ W, Calls Tryz.prog 35 #[cf k p m] W fun e w' => e = .returned (.bool true) ∧ Ext W w') := Lib.hid (fun W => (fits_any k p m W).mono fun _ _ h => ⟨by rw [h.1, hf'], h.2 ▸ Ext.new W _⟩)
  have HHo : RowKit.Hid (∀ W, Ext w W → Calls Tryz.prog 37 #[cf k p m] W fun e w' => e = .returned (.int .i64 (n : Int)) ∧ Ext W w') := Lib.hid (fun W hE => (Reg.home_any k p m W (hT.below hE)).mono fun _ _ h => ⟨by rw [h.1, hhm, hlen], h.2⟩)
  have HTk := Lib.hid hTk
  have HEn := Lib.hid hEn
  obtain ⟨c0, c1, c2⟩ := HC.out.three
  generalize hg : decR s es no xs = sf
  have HSf := Lib.hid hg
  obtain ⟨sr, sk, su, sw, scl⟩ := s
  clear hg hf hf' hhm hl hTk hEn hT hlen
  dsimp only [cf, bx, sb, sc, nilSl, sv] at *
  go_enter Tryz.func16, Tryz.ntmps16
  go_wp2_with (fail)
  refine (HF.out _).mono ?_
  rintro e w1 ⟨rfl, e1⟩
  replace X0 := Lib.hid (X0.out.trans e1)
  replace HC := Lib.hid (HC.out.ext e1)
  replace HB := Lib.hid (HB.out.ext e1)
  clear HF e1 c0 c1 c2
  obtain ⟨c0, c1, c2⟩ := HC.out.three
  have HQ := Lib.hid (HHo.out w1 X0.out)
  clear HHo
  go_wp2_with (fail)
  refine HQ.out.mono ?_
  rintro e w2 ⟨rfl, e2⟩
  replace X0 := Lib.hid (X0.out.trans e2)
  replace HC := Lib.hid (HC.out.ext e2)
  replace HB := Lib.hid (HB.out.ext e2)
  clear HQ e2 c0 c1 c2
  obtain ⟨c0, c1, c2⟩ := HC.out.three
  have HQ := Lib.hid (HTk.out w2 X0.out)
  clear HTk
  go_wp2_with (fail)
  refine HQ.out.mono ?_
  rintro e w3 ⟨e3, ⟨ka, kn, kc⟩, ⟨va, vn, vc⟩, ⟨ta, tn, tc⟩, he, S3, O3⟩
  dsimp only [sv] at he
  subst he
  have e4 := e3.alloc (.cells #[.int .u64 sr, .slice ka kn kc, .slice va vn vc, .slice ta tn tc, .bool scl] 30)
  have HO := Lib.hid (O3 (w.heap.size + 1) HB.out.lt)
  have HO2 : RowKit.Hid (∀ B, B < w.heap.size → OffS ⟨ka, kn, kc⟩ ⟨va, vn, vc⟩ ⟨ta, tn, tc⟩ B) := Lib.hid fun B hB => O3 B (Nat.lt_of_lt_of_le hB X0.out.size)
  replace X0 := Lib.hid (X0.out.trans e4)
  replace HC := Lib.hid (HC.out.ext e4)
  replace HB := Lib.hid (HB.out.ext e4)
  have HS := Lib.hid (S3.ext (Ext.new w3 (.cells #[.int .u64 sr, .slice ka kn kc, .slice va vn vc, .slice ta tn tc, .bool scl] 30)))
  have HT : RowKit.Hid (Cb (w3.alloc (.cells #[.int .u64 sr, .slice ka kn kc, .slice va vn vc, .slice ta tn tc, .bool scl] 30)) w3.heap.size [.int .u64 sr, .slice ka kn kc, .slice va vn vc, .slice ta tn tc, .bool scl]) := Lib.hid (Cb.new w3 _ _)
  clear HQ e3 e4 S3 O3 c0 c1 c2
  obtain ⟨c0, c1, c2⟩ := HC.out.three
  obtain ⟨s0, s1, s2, s3, s4⟩ := HT.out.five
  have HQ := Lib.hid (HEn.out _ ⟨ka, kn, kc⟩ ⟨va, vn, vc⟩ ⟨ta, tn, tc⟩ X0.out HS.out)
  clear HEn
  dsimp only at HQ
  go_wp2_with (fail)
  refine HQ.out.mono ?_
  rintro e w5 ⟨⟨la, ln, lc⟩, he, R5, e5⟩
  dsimp only at he R5
  subst he
  replace X0 := Lib.hid (X0.out.trans e5)
  replace HB := Lib.hid (HB.out.ext e5)
  replace HS := Lib.hid (HS.out.ext e5)
  replace HT := Lib.hid (HT.out.ext e5)
  have hR5 := Lib.hid R5
  clear HQ e5 R5 c0 c1 c2 s0 s1 s2 s3 s4 HC
  obtain ⟨s0, s1, s2, s3, s4⟩ := HT.out.five
  obtain ⟨r0, r1, r2, r3, r4⟩ := HB.out.five
  have z0 := HB.out.f
  by_cases hno : no = 0
  · subst hno
    obtain ⟨r, hr⟩ : ∃ r, r = decide (es = xs) := ⟨_, rfl⟩
    have HTo := Lib.hid (equal_e hR5.out (HR.out.ext X0.out) (Lib.hid hr))
    cases r with
    | true =>
      have hes : es = xs := of_decide_eq_true hr.symm
      have hsf := HSf.out
      unfold decR at hsf
      rw [if_pos ⟨rfl, hes⟩] at hsf
      subst hsf
      dsimp only
      clear HSf hr hes hR5
      go_wp2_with (fail)
      refine HTo.out.mono ?_
      rintro e w6 ⟨rfl, e6⟩
      clear HTo
      replace X0 := Lib.hid (X0.out.trans e6)
      replace HB := Lib.hid (HB.out.ext e6)
      replace HS := Lib.hid (HS.out.ext e6)
      replace HT := Lib.hid (HT.out.ext e6)
      clear e6 s0 s1 s2 s3 s4 r0 r1 r2 r3 r4 z0
      obtain ⟨s0, s1, s2, s3, s4⟩ := HT.out.five
      obtain ⟨r0, r1, r2, r3, r4⟩ := HB.out.five
      have z0 := HB.out.f
      go_wp2_with (fail)
      obtain ⟨q0, q1, q2, q3, q4⟩ := (HB.out.st (.int .u64 sr) (.slice ka kn kc) (.slice va vn vc) (.slice ta tn tc) (.bool scl)).five
      refine bodyPost_ret (v := .tuple #[sv sr ⟨ka, kn, kc⟩ ⟨va, vn, vc⟩ ⟨ta, tn, tc⟩ scl, .int .i64 0]) (by simp [results, Tryz.results16, go_sem, q0, q1, q2, q3, q4]) rfl ?_
      exact ⟨X0.out.put5 (by omega) sr ⟨ka, kn, kc⟩ ⟨va, vn, vc⟩ ⟨ta, tn, tc⟩ scl, ⟨ka, kn, kc⟩, ⟨va, vn, vc⟩, ⟨ta, tn, tc⟩, rfl, ss_put5 HS.out HO.out sr ⟨ka, kn, kc⟩ ⟨va, vn, vc⟩ ⟨ta, tn, tc⟩ scl, HO2.out⟩
    | false =>
      have hes : ¬ es = xs := of_decide_eq_false hr.symm
      have hsf := HSf.out
      unfold decR at hsf
      rw [if_neg (fun c => hes c.2)] at hsf
      subst hsf
      dsimp only
      clear HSf hr hes hR5 HS HO
      go_wp2_with (fail)
      refine HTo.out.mono ?_
      rintro e w6 ⟨rfl, e6⟩
      clear HTo
      replace X0 := Lib.hid (X0.out.trans e6)
      replace HB := Lib.hid (HB.out.ext e6)
      clear e6 s0 s1 s2 s3 s4 r0 r1 r2 r3 r4 z0 HT
      obtain ⟨r0, r1, r2, r3, r4⟩ := HB.out.five
      have z0 := HB.out.f
      go_wp2_with (fail)
      obtain ⟨q0, q1, q2, q3, q4⟩ := (HB.out.st (.int .u64 0) (.slice none 0 0) (.slice none 0 0) (.slice none 0 0) (.bool false)).five
      refine bodyPost_ret (v := .tuple #[sv 0 nilSl nilSl nilSl false, .int .i64 2]) (by simp [results, Tryz.results16, go_sem, q0, q1, q2, q3, q4]) rfl ?_
      exact ⟨X0.out.put5 (by omega) 0 nilSl nilSl nilSl false, nilSl, nilSl, nilSl, rfl, ss_zero _, fun B _ => offN B⟩
  · have hnb : (no != 0) = true := by simpa using hno
    have hsf := HSf.out
    unfold decR at hsf
    rw [if_neg (fun c => hno c.1)] at hsf
    subst hsf
    dsimp only
    clear HSf hno hR5 HS HO HT s0 s1 s2 s3 s4
    go_wp2_with (fail)
    obtain ⟨q0, q1, q2, q3, q4⟩ := (HB.out.st (.int .u64 0) (.slice none 0 0) (.slice none 0 0) (.slice none 0 0) (.bool false)).five
    refine bodyPost_ret (v := .tuple #[sv 0 nilSl nilSl nilSl false, .int .i64 2]) (by simp [results, Tryz.results16, go_sem, q0, q1, q2, q3, q4]) rfl ?_
    exact ⟨X0.out.put5 (by omega) 0 nilSl nilSl nilSl false, nilSl, nilSl, nilSl, rfl, ss_zero _, fun B _ => offN B⟩

end Go.Proofs.YtmonkcekkhfafaaGreatDoor.Enc

/- EncTaken:
  The landed taken, of ballots. Conditions: the words are there, as many as a ballot has.
-/
namespace Go.Proofs.YtmonkcekkhfafaaGreatDoor.Enc
open Go.RowKit (Below intOf)
open Go.Proofs.YtmonkcekkhfafaaGreatDoor.Aut
open Go.Proofs.YtmonkcekkhfafaaGreatDoor.Reg (cf bx fits_any)

theorem own_ext2 {w w' : World} {base size : Nat} {e : TypeId} {v : Value} {n : Nat} {xs : List Value} (h : w.ownsRow base e size v n xs) (x : Ext w w') : w'.ownsRow base e size v n xs :=
  h.kept (⟨x.os, x.tape, x.output, x.size, fun k hk _ => x.block k hk⟩ : w.grownBy w' none) (by cases v.ownBlock <;> simp)
theorem cb_grown {w w' : World} {row : Option Nat} {b base : Nat} {cs : List Value} (h : Cb w b cs) (g : w.grownBy w' row) (hr : ∀ k, row = some k → base ≤ k) (hb : b < base) : Cb w' b cs :=
  ⟨Nat.lt_of_lt_of_le h.lt g.size, fun j u hu => g.cell (a := ⟨b, j, none⟩) (h.c j u hu) (fun hk => by have := hr b hk.symm; omega), fun j => (g.frozen_far ⟨b, j, none⟩ h.lt (fun hk => by have := hr b hk.symm; omega)).trans (h.f j)⟩
/-- append of one int onto a row of one's own. -/
theorem addNS {w : World} {base n c : Nat} {sl : Option Addr} {ys : List Int} (hown : w.ownsRow base 3 1 (.slice sl n c) n (flatNS ys)) {b : Nat} {z : Int} (hS : NS w (some ⟨b, 0, none⟩) 1 1 [z]) (hle : n + 1 ≤ 4194304) (hbase : base ≤ w.heap.size) :
    ∃ sl' c' w', RowKit.Hid ((Builtin.append_ #[28, 28] 28 #[.slice sl n c, .slice (some ⟨b, 0, none⟩) 1 1]).run Tryz.prog w = .ok (.slice sl' (n + 1) c') w') ∧ w'.ownsRow base 3 1 (.slice sl' (n + 1) c') (n + 1) (flatNS (ys ++ [z])) ∧ w.grownBy w' (Value.slice sl n c).ownBlock := by
  obtain ⟨i0, hi, hz0, hz1, hz2⟩ := info_parts infoNS
  obtain ⟨v', w', hrun, h2, h3, _, h5⟩ := run_append_own_at (P := Tryz.prog) w base 28 28 3 i0 _ 1 8 Tryz.underlying28 hi hz0 hz1 hz2 rfl (by decide) _ n (flatNS ys) hown ⟨b, 0, none⟩ 1 1 (flatNS [z]) (by rw [flatNS_len]; rfl) hS.news (flatNS_one [z]) (by unfold maxLen; omega) (by omega) hbase
  obtain ⟨sl', c', rfl⟩ := own_form h2
  exact ⟨sl', c', w', Lib.hid hrun, by rw [flatNS_append]; exact h2, h3⟩
structure BaL (k p m : Int) (w wr : World) (cl : Bool) (ta : Option Addr) (tn tc : Nat) (xs : List Int) : Prop where
  e : Ext w wr
  c : Cb wr w.heap.size [.int .i64 k, .int .i64 p, .int .i64 m]
  r : Cb wr (w.heap.size + 1) (sc 0 nilSl nilSl nilSl false)
  b : Cb wr (w.heap.size + 1 + 1) (sc 0 nilSl nilSl ⟨ta, tn, tc⟩ cl)
  k : wr.ownsRow (w.heap.size + 3) 3 1 (.slice ta tn tc) tn (flatNS xs)
  lk : xs.length = tn
  uk : ∀ x ∈ xs, I64 x
  z : w.heap.size + 3 ≤ wr.heap.size
theorem BaL.add {k p m : Int} {w wr : World} {cl : Bool} {ta : Option Addr} {tn tc : Nat} {xs : List Int} (h : BaL k p m w wr cl ta tn tc xs) {z : Int} (hz : I64 z) (hn : tn ≤ 1048576) :
    ∃ sx cx wx, RowKit.Hid ((Builtin.append_ #[28, 28] 28 #[.slice ta tn tc, .slice (some ⟨wr.heap.size, 0, none⟩) 1 1]).run Tryz.prog (wr.alloc (.cells #[.int .i64 z] 3)) = .ok (.slice sx (tn + 1) cx) wx) ∧ Cb wx (w.heap.size + 1 + 1) (sc 0 nilSl nilSl ⟨ta, tn, tc⟩ cl) ∧
      BaL k p m w (wx.setCell ⟨w.heap.size + 1 + 1, 3, none⟩ (.slice sx (tn + 1) cx)) cl sx (tn + 1) cx (xs ++ [z]) := by
  have e3 : Ext wr (wr.alloc (.cells #[.int .i64 z] 3)) := Ext.new wr _
  have hzz := h.z
  have hs := e3.size
  have hk3 := own_ext2 h.k e3
  obtain ⟨sx, cx, wx, RX, OX, GX⟩ := addNS (ys := xs) hk3 (NS.lit wr z hz) (by omega) (by omega)
  have hge := own_ge h.k
  have cb : ∀ b cs, b < w.heap.size + 3 → Cb wr b cs → Cb wx b cs := fun b cs hb hc => cb_grown (hc.ext e3) GX hge hb
  have hb := cb _ _ (by omega) h.b
  refine ⟨sx, cx, wx, RX, hb, ⟨((h.e.trans e3).grown GX fun k hk => Nat.le_trans (by omega) (hge k hk)).setCell (by omega) _, (cb _ _ (by omega) h.c).far (by omega) _ _, (cb _ _ (by omega) h.r).far (by omega) _ _, hb.upd (i := 3) (by simp) _, RowKit.ownsRow_setCell_below OX (a := ⟨w.heap.size + 1 + 1, 3, none⟩) (by simp) _, by rw [List.length_append, h.lk]; rfl, fun x hx => ?_, ?_⟩⟩
  · rcases List.mem_append.1 hx with hx | hx
    · exact h.uk x hx
    · rw [List.mem_singleton.1 hx]; exact hz
  · rw [World.size_setCell]; have := GX.size; omega
theorem BaL.fin {k p m : Int} {w wr : World} {cl : Bool} {ta : Option Addr} {tn tc : Nat} {xs : List Int} (h : BaL k p m w wr cl ta tn tc xs) (hk : tn ≤ 1048576) :
    Ext w (put5 wr (w.heap.size + 1) 0 nilSl nilSl ⟨ta, tn, tc⟩ cl) ∧ SS (put5 wr (w.heap.size + 1) 0 nilSl nilSl ⟨ta, tn, tc⟩ cl) nilSl nilSl ⟨ta, tn, tc⟩ ⟨0, [], [], xs, cl⟩ :=
  ⟨h.e.put5 (by omega) _ _ _ _ _, by unfold U64; simp, WS.empty _ _ _ (by decide), WS.empty _ _ _ (by decide), (NS.of_own h.k h.lk hk h.uk).far5 (off_own (own_ge h.k) (by omega)) _ _ _ _ _⟩
theorem BaL.off {k p m : Int} {w wr : World} {cl : Bool} {ta : Option Addr} {tn tc : Nat} {xs : List Int} (h : BaL k p m w wr cl ta tn tc xs) : ∀ B, B < w.heap.size → OffS nilSl nilSl ⟨ta, tn, tc⟩ B :=
  fun B hB => ⟨fun h => absurd h (Nat.lt_irrefl 0), fun h => absurd h (Nat.lt_irrefl 0), fun _ => off_own (own_ge h.k) (by omega)⟩


theorem all_of {α : Type} {xs : List α} {j : Nat} (h : xs[j]? = none) : xs.take j = xs := List.take_of_length_le (List.getElem?_eq_none_iff.1 h)
/-- A word, as an int. -/
def asI (x : Int) : Int := RowKit.wrap64 x
theorem asI_i (x : Int) : I64 (asI x) := by unfold asI I64; simp only [RowKit.wrap64]; omega
/-- The ballot that words may be. -/
def takenB (m : Nat) (xs : List Int) : St := ⟨0, [], [], ((xs.drop 1).take m).map asI, xs.getD 0 0 != 0⟩
theorem takenB_get (xs : List Int) (m j : Nat) : (((xs.drop 1).take m).map asI)[j]? = if j < m then xs[1 + j]?.map asI else none := by
  rw [List.getElem?_map, List.getElem?_take]
  by_cases h : j < m
  · rw [if_pos h, if_pos h, List.getElem?_drop]
  · rw [if_neg h, if_neg h]; rfl
abbrev tW (w : World) (p m : Int) (cl : Bool) : World := ((w.alloc (bx 5 p m)).alloc (sb 0 nilSl nilSl nilSl false)).alloc (sb 0 nilSl nilSl nilSl cl)
theorem ba0 (w : World) (p m : Int) (cl : Bool) : BaL 5 p m w (tW w p m cl) cl none 0 0 [] := by
  have h := Cb.new (w.alloc (bx 5 p m)) (sc 0 nilSl nilSl nilSl false) 30
  rw [World.size_alloc] at h
  have h2 := Cb.new ((w.alloc (bx 5 p m)).alloc (sb 0 nilSl nilSl nilSl false)) (sc 0 nilSl nilSl nilSl cl) 30
  rw [World.size_alloc, World.size_alloc] at h2
  exact ⟨((Ext.new w _).alloc _).alloc _, ((Cb.new w _ _).alloc _).alloc _, h.alloc _, h2, World.ownsRow_nil _ _ _ _, rfl, fun _ h => by simp at h, by simp [tW]⟩

set_option maxHeartbeats 8000000 in
set_option maxRecDepth 100000 in
theorem taken_bal (p : Int) (m : Nat) (hm : 1 ≤ m ∧ m ≤ 256) (sl : Option Addr) (n c : Nat) (xs : List Int) (w : World) (hl : WS w sl n c xs) (hn : n = m + 9) :
    Calls Tryz.prog 40 #[cf 5 p m, .slice sl n c] w (SF (takenB m xs) w) := by
  have hlc := hl.lc
  have hcle := hl.cle
  obtain ⟨q, rfl⟩ : ∃ q, n = q + 1 := ⟨m + 8, by omega⟩
  obtain ⟨d, rfl⟩ : ∃ d, c = d + 1 := ⟨c - 1, by omega⟩
  obtain ⟨v, hy, hyu, b, o, hsl, hyc⟩ := hl.get (k := 0) (by omega)
  obtain ⟨V, hV⟩ : ∃ V, ((xs.drop 1).take m).map asI = V := ⟨_, rfl⟩
  have hrd : takenB m xs = ⟨0, [], [], V, v != 0⟩ := by
    unfold takenB; rw [List.getD_eq_getElem?_getD, hy, hV]; rfl
  rw [hrd]
  have hVg : ∀ j, V[j]? = if j < m then xs[1 + j]?.map asI else none := fun j => by rw [← hV, takenB_get]
  have HVg := Lib.hid hVg
  have D0 := Lib.hid (ba0 w p m (v != 0))
  have e2 : Ext w ((w.alloc (bx 5 p m)).alloc (sb 0 nilSl nilSl nilSl false)) := (Ext.new w _).alloc _
  have cd := e2.cell hyc
  obtain ⟨k0, k1, k2⟩ := ((Cb.new w [.int .i64 5, .int .i64 p, .int .i64 m] 24).alloc (sb 0 nilSl nilSl nilSl false)).three
  have HR := Lib.hid hl
  have hmq : (m : Int) ≤ (d : Int) := by omega
  have hm0 : ¬ (m : Int) < 0 := by omega
  have hmq2 : m ≤ d := by omega
  have hq2 : (1 : Int) ≤ (q : Int) + 1 := by omega
  subst hsl
  rw [Nat.add_zero] at cd
  clear hl hy hyu hrd hV hVg hyc e2
  dsimp only [cf, bx, sb, tW, nilSl] at *
  go_enter Tryz.func40, Tryz.ntmps40
  go_upto_region 13 with (fail)
  generalize (v != 0) = cl at *
  generalize ((w.alloc (.cells #[.int .i64 5, .int .i64 p, .int .i64 m] 24)).alloc (.cells #[.int .u64 0, .slice none 0 0, .slice none 0 0, .slice none 0 0, .bool false] 30)).alloc (.cells #[.int .u64 0, .slice none 0 0, .slice none 0 0, .slice none 0 0, .bool cl] 30) = W at *
  clear k0 k1 k2 cd
  obtain ⟨k0, k1, k2⟩ := D0.out.c.three
  go_quiet (fail)
  go_wp2_with (fail)
  replace D0 := Lib.hid (show BaL 5 p m w (W.drewN nq) cl none 0 0 [] from ⟨D0.out.e.drewN _, D0.out.c.ext (Ext.draws _ _), D0.out.r.ext (Ext.draws _ _), D0.out.b.ext (Ext.draws _ _), World.ownsRow_nil _ _ _ _, rfl, fun _ h => by simp at h, D0.out.z⟩)
  clear k0 k1 k2
  go_loopg [59] m (fun kx s59 wr => ∃ (j : Nat) (ta : Option Addr) (tn tc : Nat), s59 = .int .i64 j ∧ j ≤ m ∧ m - j ≤ kx ∧ RowKit.Hid (BaL 5 p m w wr cl ta tn tc (V.take j)))
  case atStart => exact ⟨0, none, 0, 0, rfl, Nat.zero_le _, by omega, Lib.hid (by simpa using D0.out)⟩
  case round =>
    obtain ⟨j, ta, tn, tc, rfl, hj, hg, D⟩ := hrel
    clear D0
    obtain ⟨b0, b1, b2, b3, b4⟩ := D.out.b.five
    have htn : tn ≤ 1048576 := by have h1 := D.out.lk; rw [List.length_take] at h1; omega
    have hvj := HVg.out j
    by_cases hlt : j < m
    · have hlt2 : (j : Int) < m := by omega
      obtain ⟨x, hy, hyu, b', o', hbe, hyc⟩ := HR.out.get (k := 1 + j) (by omega)
      cases hbe
      rw [if_pos hlt, hy] at hvj
      have cd := D.out.e.cell hyc
      rw [← Nat.add_assoc] at cd
      obtain ⟨sx, cx, wx, RX, BX, DX⟩ := D.out.add (z := RowKit.wrap64 x) (asI_i x) htn
      have y3 := BX.c 3 _ rfl
      have z3 := BX.f 3
      have hvs : V.take (j + 1) = V.take j ++ [RowKit.wrap64 x] := take_snoc hvj
      have Hvs := Lib.hid hvs
      replace DX := Lib.hid DX
      dsimp only at DX RX y3
      have hms : m - (j + 1) < gk := by omega
      clear BX hy hyu hyc hvj hvs D hg
      go_wp2_with (first | (at_builtin; refine Lib.wpList_append_run _ rfl (.tmp 64) (.tmp 67) _ _ rfl _ _ rfl rfl _ _ RX.out ?_))
      go_roundg (m - (j + 1))
      case measure => exact hms
      case rel => exact ⟨j + 1, sx, tn + 1, cx, by first | rfl | (congr 1), by omega, by omega, Lib.hid (by rw [Hvs.out]; exact DX.out)⟩
    · obtain rfl : j = m := by omega
      have hlt2 : ¬ (j : Int) < j := by omega
      rw [if_neg hlt] at hvj
      have hve := all_of hvj
      have HB := Lib.hid D.out.r
      have HOf := Lib.hid D.out.off
      have DF := Lib.hid (D.out.fin htn)
      rw [hve] at DF
      obtain ⟨r0, r1, r2, r3, r4⟩ := D.out.r.five
      have y0 := D.out.r.f
      dsimp only [put5] at DF
      clear hvj hve D hlt
      go_wp2_with (fail)
      obtain ⟨q0, q1, q2, q3, q4⟩ := (HB.out.st (.int .u64 0) (.slice none 0 0) (.slice none 0 0) (.slice ta tn tc) (.bool cl)).five
      refine bodyPost_ret (v := sv 0 nilSl nilSl ⟨ta, tn, tc⟩ cl) (by simp [results, Tryz.results40, go_sem, q0, q1, q2, q3, q4]) rfl ?_
      exact ⟨DF.out.1, nilSl, nilSl, ⟨ta, tn, tc⟩, rfl, DF.out.2, HOf.out⟩

end Go.Proofs.YtmonkcekkhfafaaGreatDoor.Enc

/- EncTable:
  The landed table: the words of keys and of what belongs to them. Conditions: the package's table lies, keys and values lie and are as many, each key has one more that is a word.
-/
namespace Go.Proofs.YtmonkcekkhfafaaGreatDoor.Enc
open Go.RowKit (Below intOf)
open Go.Proofs.YtmonkcekkhfafaaGreatDoor.Aut
open Go.Proofs.YtmonkcekkhfafaaGreatDoor.Reg (cf bx)

/-- Each key, one more, and what belongs to it. -/
def recT (ks vs : List Int) : List (Int × Int) := List.zipWith (fun k v => (k + 1, v)) ks vs
theorem recT_len {ks vs : List Int} (h : vs.length = ks.length) : (recT ks vs).length = ks.length := by unfold recT; simp [h]
theorem recT_get {ks vs : List Int} {i : Nat} {k v : Int} (hk : ks[i]? = some k) (hv : vs[i]? = some v) : (recT ks vs)[i]? = some (k + 1, v) := by
  unfold recT; rw [List.getElem?_zipWith, hk, hv]

abbrev zerosQ (n : Nat) : Array Value := madeCells #[.int .u64 0, .int .u64 0] (n * 2)
theorem infoQS : (Tryz.prog.info? 80).map (fun i => (i.zero, i.size, i.bytes)) = some (some (.agg #[.int .u64 0, .int .u64 0]), 2, 16) := by kernel_rfl
theorem make_recs (n : Nat) (hn : n ≤ 256) (W : World) : (Instr.makeSlice 55 (.int .i64 (n : Int)) (.int .i64 (n : Int))).run Tryz.prog W = .ok (.slice (some ⟨W.heap.size, 0, none⟩) n n) (W.alloc (.cells (zerosQ n) 80)) := by
  obtain ⟨i0, hi, hz0, hz1, hz2⟩ := info_parts infoQS
  have h := run_make (P := Tryz.prog) W 55 80 i0 _ Tryz.underlying55 hi hz0 .i64 .i64 n n (by omega) (by omega) (by rw [hz2]; omega) (by omega)
  simp only [Int.toNat_natCast, hz1] at h
  exact h

/-- Room for n records in block g, of which i are written. -/
structure Rows (w : World) (g n i : Nat) (l : List (Int × Int)) : Prop where
  room : ∀ j, j < n * 2 → (∃ v, w.cell? ⟨g, j, none⟩ = some v) ∧ w.frozen? ⟨g, j, none⟩ = false
  got : ∀ j r, j < i → l[j]? = some r → w.cell? ⟨g, j * 2, none⟩ = some (.int .u64 r.1) ∧ w.cell? ⟨g, j * 2 + 1, none⟩ = some (.int .u64 r.2)
theorem Rows.new (w : World) (n : Nat) (l : List (Int × Int)) : Rows (w.alloc (.cells (zerosQ n) 80)) w.heap.size n 0 l :=
  ⟨fun j hj => by
    constructor
    · have : j < (zerosQ n).size := by rw [size_madeCells]; exact hj
      exact ⟨(zerosQ n)[j], by unfold World.cell?; rw [World.alloc_heap_new]; simp [this]⟩
    · unfold World.frozen?; rw [World.alloc_heap_new]; simp, fun _ _ h => absurd h (Nat.not_lt_zero _)⟩
theorem Rows.put {w : World} {g n i : Nat} {l : List (Int × Int)} (h : Rows w g n i l) (hi : i < n) {a b : Int} (hl : l[i]? = some (a, b)) :
    Rows ((w.setCell ⟨g, i * 2, none⟩ (.int .u64 a)).setCell ⟨g, i * 2 + 1, none⟩ (.int .u64 b)) g n (i + 1) l := by
  obtain ⟨⟨v0, h0⟩, _⟩ := h.room (i * 2) (by omega)
  obtain ⟨⟨v1, h1⟩, _⟩ := h.room (i * 2 + 1) (by omega)
  have c0 : ((w.setCell ⟨g, i * 2, none⟩ (.int .u64 a)).setCell ⟨g, i * 2 + 1, none⟩ (.int .u64 b)).cell? ⟨g, i * 2, none⟩ = some (.int .u64 a) := by
    rw [set_far (by omega)]; exact World.cell?_setCell_same' _ _ _ (by rw [h0]; rfl)
  have c1 : ((w.setCell ⟨g, i * 2, none⟩ (.int .u64 a)).setCell ⟨g, i * 2 + 1, none⟩ (.int .u64 b)).cell? ⟨g, i * 2 + 1, none⟩ = some (.int .u64 b) :=
    World.cell?_setCell_same' _ _ _ (by rw [set_far (by omega), h1]; rfl)
  refine ⟨fun j hj => ⟨?_, ?_⟩, fun j r hj hr => ?_⟩
  · by_cases e1 : j = i * 2 + 1
    · subst e1; exact ⟨_, c1⟩
    · by_cases e0 : j = i * 2
      · subst e0; exact ⟨_, c0⟩
      · rw [set_far e1, set_far e0]; exact (h.room j hj).1
  · rw [World.frozen?_setCell, World.frozen?_setCell]; exact (h.room j hj).2
  · by_cases e : j = i
    · subst e; rw [hl] at hr; cases hr; exact ⟨c0, c1⟩
    · rw [set_far (by omega), set_far (by omega), set_far (by omega), set_far (by omega)]; exact h.got j r (by omega) hr
theorem Rows.qs {w : World} {g n : Nat} {l : List (Int × Int)} (h : Rows w g n n l) (hl : l.length = n) (hn : n ≤ 1048576) (hu : ∀ r ∈ l, Prb.Ur r) : Prb.QS w (some ⟨g, 0, none⟩) n n l :=
  ⟨hl, hn, Nat.le_refl _, by omega, fun j r hr => ⟨hu r (List.mem_of_getElem? hr), g, 0, rfl, by
    obtain ⟨hj, _⟩ := List.getElem?_eq_some_iff.1 hr
    have := h.got j r (by omega) hr
    rw [Nat.zero_add]; exact this⟩⟩

/-- A list of words is answered. -/
def TE (xs : List Int) (w : World) (e : Ending) (w' : World) : Prop := ∃ k : Sl, e = .returned (.slice k.a k.n k.c) ∧ WS w' k.a k.n k.c xs ∧ Ext w w'

set_option maxHeartbeats 4000000 in
set_option maxRecDepth 100000 in
theorem table_any (k p : Int) (m : Nat) (v : Int) (a b : Sl) (ks vs : List Int) (w : World) (hT : Tab w) (hA : WS w a.a a.n a.c ks) (hB : WS w b.a b.n b.c vs) (hab : vs.length = ks.length) (hm : m ≤ 256) (hn : a.n ≤ 256) (hk : ∀ x ∈ ks, x < 18446744073709551615) :
    Calls Tryz.prog 76 #[cf k p m, .int .i64 v, .slice a.a a.n a.c, .slice b.a b.n b.c] w (TE (Prb.buildS (2 * (m : Int)) v (recT ks vs)).1 w) := by
  obtain ⟨aa, n, ac⟩ := a
  obtain ⟨ba, bn, bc⟩ := b
  dsimp only at *
  obtain rfl : bn = n := by have h1 := hA.len; have h2 := hB.len; omega
  have hc := Lib.hid (Cb.new w [.int .i64 k, .int .i64 p, .int .i64 (m : Int)] 24)
  have HA := Lib.hid hA
  have HB := Lib.hid hB
  have HT := Lib.hid hT
  have HK := Lib.hid hk
  have Hab := Lib.hid hab
  have hmk := fun W => make_recs bn hn W
  have HM := Lib.hid (Rows.new (w.alloc (bx k p m)) bn (recT ks vs))
  have hw2 : IntKind.i64.wrap (2 * (m : Int)) = 2 * (m : Int) := by simp only [IntKind.wrap_i64]; omega
  clear hA hB hT hk hab
  dsimp only [cf, bx, World.size_alloc] at *
  go_enter Tryz.func76, Tryz.ntmps76
  go_wp2_with (fail)
  go_loopg [19] bn (fun kx s19 wr => ∃ i : Nat, s19 = .int .i64 i ∧ i ≤ bn ∧ bn - i ≤ kx ∧ RowKit.Hid (Ext (w.alloc (.cells #[.int .i64 k, .int .i64 p, .int .i64 (m : Int)] 24)) wr) ∧ RowKit.Hid (Rows wr (w.heap.size + 1) bn i (recT ks vs)))
  case atStart => exact ⟨0, rfl, Nat.zero_le _, by omega, Lib.hid (Ext.new _ _), Lib.hid (by have h := HM.out; simp only [World.size_alloc] at h; exact h)⟩
  case round =>
    obtain ⟨i, rfl, hi, hg, S1, D⟩ := hrel
    by_cases hlt : i < bn
    · have hlt2 : (i : Int) < bn := by omega
      obtain ⟨x, hx, hxu, b1, o1, rfl, hxc⟩ := HA.out.get hlt
      obtain ⟨y, hy, hyu, b2, o2, rfl, hyc⟩ := HB.out.get hlt
      have cx := S1.out.cell ((Ext.new w _).cell hxc)
      have cy := S1.out.cell ((Ext.new w _).cell hyc)
      obtain ⟨⟨v0, g0⟩, f0⟩ := D.out.room (i * 2) (by omega)
      obtain ⟨⟨v1, g1⟩, f1⟩ := D.out.room (i * 2 + 1) (by omega)
      have hw1 : IntKind.u64.wrap (x + 1) = x + 1 := by have h1 := HK.out x (List.mem_of_getElem? hx); have h2 := hxu.1; simp only [IntKind.wrap_u64]; omega
      have HP := Lib.hid (D.out.put hlt (recT_get hx hy))
      clear hxc hyc hxu hyu hx hy D HM HT
      go_wp2_with (fail)
      go_roundg (bn - (i + 1))
      case measure => omega
      case rel => exact ⟨i + 1, by first | rfl | (congr 1; omega), by omega, by omega, Lib.hid ((S1.out.setCell (by simp) _).setCell (by simp) _), HP⟩
    · obtain rfl : i = bn := by omega
      have hlt2 : ¬ (i : Int) < i := by omega
      have hl : (recT ks vs).length = i := by rw [recT_len Hab.out]; exact HA.out.len
      have hu : ∀ r ∈ recT ks vs, Prb.Ur r := fun r hr => by
        obtain ⟨j, hj⟩ := List.getElem?_of_mem hr
        obtain ⟨hj', _⟩ := List.getElem?_eq_some_iff.1 hj
        obtain ⟨x, hx, hxu, _⟩ := HA.out.get (k := j) (by omega)
        obtain ⟨y, hy, hyu, _⟩ := HB.out.get (k := j) (by omega)
        rw [recT_get hx hy] at hj
        cases hj
        have h1 := HK.out x (List.mem_of_getElem? hx)
        exact ⟨⟨by have := hxu.1; show (0 : Int) ≤ x + 1; omega, by show x + 1 < 18446744073709551616; omega⟩, hyu⟩
      have hE : Ext w wr := (Ext.new w _).trans S1.out
      have hBd := Prb.build_any (2 * (m : Int)) v (some ⟨w.heap.size + 1, 0, none⟩) i i (recT ks vs) wr (HT.out.ext ⟨hE.os, hE.tape, hE.output, hE.size, hE.block⟩) (D.out.qs hl (by omega) hu)
      have HE := Lib.hid hE
      obtain ⟨c0, c1, c2⟩ := (hc.out.ext S1.out).three
      obtain ⟨R, hR⟩ : ∃ R, Prb.buildS (2 * (m : Int)) v (recT ks vs) = R := ⟨_, rfl⟩
      rw [hR] at hBd ⊢
      clear D HM HA HB HT HK hmk hE hl hu hc
      go_wp2_with (fail)
      refine hBd.mono ?_
      rintro e w1 ⟨hE1, sl, n1, c1', rfl, hW⟩
      have HW := Lib.hid hW
      have HE1 := Lib.hid hE1
      clear hW hE1 hBd
      go_wp2_with (fail)
      go_ret
      exact ⟨⟨sl, n1, c1'⟩, rfl, by rw [hR]; exact HW.out, HE.out.trans ⟨HE1.out.os, HE1.out.tape, HE1.out.output, HE1.out.size, HE1.out.block⟩⟩

end Go.Proofs.YtmonkcekkhfafaaGreatDoor.Enc

