/-
  Parts of a proof, one behind the other: LanVal, LanTaken, LanSeen, LanBtk, LanSee, LanCi, LanIns, LanDrop. Each says its own conditions.
-/
import Derived.Test.YtdipddnnckfnmaaGreatM20

/- LanVal:
  values: what was told, beside the errors. Conditions: what was told are answers, at most so many.
-/
namespace Go.Proofs.YtdipddnnckfnmaaGreat.Lan
open Go.RowKit (Below intOf)
open Go.Proofs.YtdipddnnckfnmaaGreat.Aut
open Go.Proofs.YtdipddnnckfnmaaGreat.Reg (cf bx fits_any)

theorem make_words (n : Nat) (hn : n ≤ 1048576) (W : World) : (Instr.makeSlice 27 (.int .i64 (n : Int)) (.int .i64 (n : Int))).run Tryz.prog W = .ok (.slice (some ⟨W.heap.size, 0, none⟩) n n) (W.alloc (.cells (zerosW n) 26)) := by
  obtain ⟨i0, hi, hz0, hz1, hz2⟩ := info_parts infoWS
  have h := run_make (P := Tryz.prog) W 27 26 i0 _ Tryz.underlying27 hi hz0 .i64 .i64 n n (by omega) (by omega) (by rw [hz2]; omega) (by omega)
  simp only [Int.toNat_natCast, hz1, Nat.mul_one] at h
  exact h
theorem made_own (n : Nat) (hn : n ≤ 1048576) (W : World) : (W.alloc (.cells (zerosW n) 26)).ownsRow W.heap.size 26 1 (.slice (some ⟨W.heap.size, 0, none⟩) n n) n (flatWS (List.replicate n 0)) := by
  have := World.ownsRow_lit (base := W.heap.size) (e := 26) (size := 1) W (zerosW n) n (Nat.le_refl _) (by unfold maxLen; omega) (by simp [zerosW, madeCells])
  rw [zerosW_flat] at this
  exact this
theorem own_put {w : World} {base g n c : Nat} {ys : List Int} (h : w.ownsRow base 26 1 (.slice (some ⟨g, 0, none⟩) n c) n (flatWS ys)) (j : Nat) (x : Int) : (w.setCell ⟨g, j, none⟩ (.int .u64 x)).ownsRow base 26 1 (.slice (some ⟨g, 0, none⟩) n c) n (flatWS (ys.set j x)) := by
  have := h.stored j (.int .u64 x)
  rw [flatWS_map] at this ⊢
  rw [← List.map_set] at this
  exact this.1

set_option maxHeartbeats 2000000 in
set_option maxRecDepth 100000 in
theorem values_any (sl : Option Addr) (n c : Nat) (l : List Rs) (w : World) (hl : RS w sl n c l) :
    Calls Tryz.prog 121 #[.slice sl n c] w fun e w' => ∃ k : Sl, e = .returned (.slice k.a k.n k.c) ∧ WS w' k.a k.n k.c (l.map (·.2)) ∧ Ext w w' ∧ ∀ B, B < w.heap.size → Off k.a B := by
  have hn := hl.le
  have HR := Lib.hid hl
  have hmk := fun W => make_words n hn W
  have HM := Lib.hid (made_own n hn w)
  clear hl
  go_enter Tryz.func121, Tryz.ntmps121
  go_wp2_with (fail)
  go_loopg [11] n (fun kx s11 wr => ∃ i : Nat, s11 = .int .i64 i ∧ i ≤ n ∧ n - i ≤ kx ∧ RowKit.Hid (Ext w wr) ∧ RowKit.Hid (∃ ys : List Int, ys.length = n ∧ (∀ y ∈ ys, U64 y) ∧ (∀ j, j < i → ys[j]? = (l.map (·.2))[j]?) ∧ wr.ownsRow w.heap.size 26 1 (.slice (some ⟨w.heap.size, 0, none⟩) n n) n (flatWS ys)))
  case atStart => exact ⟨0, rfl, Nat.zero_le _, by omega, Lib.hid (Ext.new _ _), Lib.hid ⟨List.replicate n 0, by simp, fun y hy => by rw [List.eq_of_mem_replicate hy]; unfold U64; simp, fun j hj => absurd hj (Nat.not_lt_zero _), HM.out⟩⟩
  case round =>
    obtain ⟨i, rfl, hi, hg, S1, D⟩ := hrel
    obtain ⟨ys, y1, y2, y3, y4⟩ := D.out
    by_cases hlt : i < n
    · have hlt2 : (i : Int) < n := by omega
      obtain ⟨⟨e, v⟩, hy, hyu, b, o, rfl, hyc, hyd⟩ := HR.out.get hlt
      have cm := S1.out.cell hyc
      have cd := S1.out.cell hyd
      dsimp only at cm cd
      have h4 := y4.alloc (.cells #[.int .i64 e, .int .u64 v] 51)
      have gc := h4.cellAt i (by omega)
      rw [flatWS_0] at gc
      have hyi : ys[i]? = some (ys[i]'(by omega)) := List.getElem?_eq_getElem (by omega)
      rw [hyi] at gc
      simp only [Option.map_some] at gc
      have gf := h4.frozenAt i
      have HP := Lib.hid (own_put h4 i v)
      have HY2 := Lib.hid y2
      have HY3 := Lib.hid y3
      have HY := Lib.hid hy
      have HU := Lib.hid hyu.2
      generalize ys[i]'(by omega) = old at *
      clear hyc hyd hyu hy y2 y3 y4 h4 D HM hyi
      go_wp2_with (fail)
      go_roundg (n - (i + 1))
      case measure => omega
      case rel =>
        refine ⟨i + 1, by first | rfl | (congr 1; omega), by omega, by omega, Lib.hid ((S1.out.alloc _).setCell (Nat.le_refl _) _), Lib.hid ⟨ys.set i v, by simpa using y1, fun y hy => ?_, fun j hj => ?_, HP.out⟩⟩
        · rcases List.mem_or_eq_of_mem_set hy with h | h
          · exact HY2.out y h
          · rw [h]; exact HU.out
        · by_cases ej : j = i
          · subst ej
            rw [List.getElem?_set_self (by omega), List.getElem?_map, HY.out]; rfl
          · rw [List.getElem?_set_ne (Ne.symm ej)]; exact HY3.out j (by omega)
    · obtain rfl : i = n := by omega
      have hlt2 : ¬ (i : Int) < i := by omega
      have hq : ys = l.map (·.2) := by
        apply List.ext_getElem?
        intro j
        by_cases hj : j < i
        · exact y3 j hj
        · rw [List.getElem?_eq_none (by omega), List.getElem?_eq_none (by rw [List.length_map, HR.out.len]; omega)]
      subst hq
      have HF := Lib.hid (WS.of_own y4 y1 hn y2)
      clear D y1 y2 y3 y4 HM HR
      go_wp2_with (fail)
      go_ret
      exact ⟨⟨some ⟨w.heap.size, 0, none⟩, i, i⟩, rfl, HF.out, S1.out, fun B hB g o e => by cases e; omega⟩

end Go.Proofs.YtdipddnnckfnmaaGreat.Lan

/- LanTaken:
  The state that is taken from what was told, of each kind of object. Conditions: what was told are answers, at most so many.
-/
namespace Go.Proofs.YtdipddnnckfnmaaGreat.Lan
open Go.RowKit (Below intOf)
open Go.Proofs.YtdipddnnckfnmaaGreat.Aut
open Go.Proofs.YtdipddnnckfnmaaGreat.Reg (cf bx fits_any)

/-- A word, as an int. -/
def asInt (x : Int) : Int := RowKit.wrap64 x
theorem asInt_i (x : Int) : I64 (asInt x) := by unfold asInt I64; simp only [RowKit.wrap64]; omega
theorem asInt_small {x : Int} (h0 : 0 ≤ x) (h8 : x ≤ 8) : asInt x = x := by unfold asInt; simp only [RowKit.wrap64]; omega
def takenS (k : Int) (l : List Rs) : St :=
  if k = 1 then { zeroS with reg := (l.getD 0 (0, 0)).2 }
  else if keyed k then (if valued k then { zeroS with keys := ((evR l).take (odR l).length).map (·.2), vals := (odR l).map (·.2) } else { zeroS with keys := (l.take (l.length - 1)).map (·.2) })
  else if l.length < 9 then zeroS else { zeroS with closed := decide ((l.getD 0 (0, 0)).2 ≠ 0), votes := (l.drop 9).map fun r => asInt r.2 }

theorem evod_pairs : ∀ (ks vs : List Int) (x : Rs), vs.length = ks.length → (evR (pairsL ks vs ++ [x])).map (·.2) = ks ++ [x.2] ∧ (odR (pairsL ks vs ++ [x])).map (·.2) = vs
  | [], [], x, _ => ⟨rfl, rfl⟩
  | [], _ :: _, x, h => by simp at h
  | _ :: _, [], x, h => by simp at h
  | k :: ks, v :: vs, x, h => by
    obtain ⟨h1, h2⟩ := evod_pairs ks vs x (by simpa using h)
    exact ⟨by simp only [pairsL, List.cons_append, evR, List.map_cons, h1], by simp only [pairsL, List.cons_append, odR, List.map_cons, h2]⟩
theorem taken_set (l : List Rs) : takenS 2 l = ⟨0, (l.take (l.length - 1)).map (·.2), [], [], false⟩ := by
  unfold takenS
  rw [if_neg (by decide), if_pos (show keyed 2 = true from rfl), if_neg (show ¬ valued 2 = true by decide)]; rfl
theorem taken_tab {k : Int} (hk : k = 3 ∨ k = 4) (l : List Rs) : takenS k l = ⟨0, ((evR l).take (odR l).length).map (·.2), (odR l).map (·.2), [], false⟩ := by
  unfold takenS
  rw [if_neg (by omega), if_pos (show keyed k = true by unfold keyed; exact decide_eq_true (by omega)), if_pos (show valued k = true by unfold valued; exact decide_eq_true hk)]; rfl
theorem taken_bal (l : List Rs) : takenS 5 l = if l.length < 9 then zeroS else ⟨0, [], [], (l.drop 9).map fun r => asInt r.2, decide ((l.getD 0 (0, 0)).2 ≠ 0)⟩ := by
  unfold takenS
  rw [if_neg (by decide), if_neg (show ¬ keyed 5 = true by decide)]; rfl
theorem out_set (s : St) : outS 2 s = (s.keys.map fun x => ((0, x) : Rs)) ++ [(12, 0)] := by
  unfold outS
  rw [if_neg (by decide), if_pos (show keyed 2 = true from rfl), if_neg (show ¬ valued 2 = true by decide)]
theorem out_tab {k : Int} (hk : k = 3 ∨ k = 4) (s : St) : outS k s = pairsL s.keys s.vals ++ [(12, 0)] := by
  unfold outS
  rw [if_neg (by omega), if_pos (show keyed k = true by unfold keyed; exact decide_eq_true (by omega)), if_pos (show valued k = true by unfold valued; exact decide_eq_true hk)]
theorem out_bal (s : St) : outS 5 s = (0, bitZ s.closed) :: ((List.range 8).map fun i : Nat => ((0, (tallyL s.votes ((i : Int) + 1) : Int)) : Rs)) ++ s.votes.map fun v => (0, v) := by
  unfold outS
  rw [if_neg (by decide), if_neg (show ¬ keyed 5 = true by decide)]
theorem taken_out {k p m : Int} {s : St} (h : rightS k p m s = true) : takenS k (outS k s) = s := by
  obtain ⟨hf, he, h1, h2, h5⟩ := right_iff.1 h
  have hb := fits_of hf
  obtain ⟨r, ks, vs, vt, cl⟩ := s
  unfold ElseOk at he
  dsimp only at he
  have tab : (k = 3 ∨ k = 4) → takenS k (outS k ⟨r, ks, vs, vt, cl⟩) = ⟨r, ks, vs, vt, cl⟩ := fun hk => by
    have e1 := he.1.resolve_left (by omega)
    have e2 := he.2.2.resolve_left (by omega)
    have hv : valued k = true := by unfold valued; exact decide_eq_true hk
    have hK := (h2 (valued_of hv)).2.1
    rw [if_pos hv] at hK
    dsimp only at hK
    obtain ⟨q1, q2⟩ := evod_pairs ks vs (12, 0) hK
    have q3 : (odR (pairsL ks vs ++ [((12, 0) : Rs)])).length = ks.length := by
      have := congrArg List.length q2; rw [List.length_map] at this; omega
    rw [out_tab hk, taken_tab hk, q3, List.map_take, q1, q2, List.take_left, e1, e2.1, e2.2]
  rcases kinds hf with rfl | rfl | c | c | rfl
  · have e1 := he.2.1.resolve_left (by decide)
    have e2 := he.2.2.resolve_left (by decide)
    simp [takenS, outS, zeroS, e1, e2]
  · have e1 := he.1.resolve_left (by decide)
    have e2 := he.2.2.resolve_left (by decide)
    have hK := (h2 rfl).2.1
    rw [if_neg (show ¬ valued 2 = true by decide)] at hK
    have e3 : vs = [] := List.eq_nil_of_length_eq_zero hK
    rw [out_set, taken_set]
    simp [e1, e2, e3]
    exact List.map_id ks
  · exact tab (.inl c)
  · exact tab (.inr c)
  have e1 := he.1.resolve_left (by decide)
  have e2 := he.2.1.resolve_left (by decide)
  have hV := h5 rfl
  unfold VotesOk at hV
  dsimp only at hV
  have hl := ballot_len (k := 5) (m := m) (s := ⟨r, ks, vs, vt, cl⟩) (by decide) rfl hV
  have hsm : vt.map asInt = vt := by
    conv => rhs; rw [← List.map_id vt]
    exact List.map_congr_left fun x hx => asInt_small (hV.2 x hx).1 (hV.2 x hx).2
  rw [taken_bal, if_neg (by omega)]
  have hd : (outS 5 ⟨r, ks, vs, vt, cl⟩).drop 9 = vt.map fun v => ((0, v) : Rs) := by
    rw [out_bal]; simp
  have hg : (outS 5 ⟨r, ks, vs, vt, cl⟩).getD 0 (0, 0) = (0, bitZ cl) := by
    rw [out_bal]; rfl
  rw [hd, hg, List.map_map]
  have : ((fun r : Rs => asInt r.2) ∘ fun v => ((0, v) : Rs)) = asInt := rfl
  rw [this, hsm, e1, e2.1, e2.2]
  cases cl <;> simp [bitZ]
theorem seen_is {k p m : Int} {l : List Rs} : (if rightS k p m (takenS k l) = true ∧ outS k (takenS k l) = l then (takenS k l, true) else (zeroS, false)) = seenF k p m l := by
  by_cases c : rightS k p m (takenS k l) = true ∧ outS k (takenS k l) = l
  · rw [if_pos c]
    have := seen_out c.1
    rw [c.2] at this
    exact this.symm
  · rw [if_neg c]
    unfold seenF
    rw [if_neg]
    rintro ⟨_, _, h2, h3⟩
    have := taken_out h2
    rw [h3] at this
    exact c ⟨by rw [this]; exact h2, by rw [this]; exact h3⟩

end Go.Proofs.YtdipddnnckfnmaaGreat.Lan

/- LanSeen:
  taken of each kind of object, and Seen. Conditions: what was told are answers, at most so many.
-/
namespace Go.Proofs.YtdipddnnckfnmaaGreat.Lan
open Go.RowKit (Below intOf)
open Go.Proofs.YtdipddnnckfnmaaGreat.Aut
open Go.Proofs.YtdipddnnckfnmaaGreat.Reg (cf bx fits_any)

theorem u64_zero : U64 0 := by unfold U64; simp
set_option maxHeartbeats 1000000 in
set_option maxRecDepth 100000 in
theorem reg_taken (sl : Option Addr) (n c : Nat) (l : List Rs) (w : World) (hl : RS w sl n c l) : Calls Tryz.prog 96 #[kE, .slice sl n c] w (NE (takenS 1 l) w) := by
  have e0 : takenS 1 l = ⟨(l.getD 0 (0, 0)).2, [], [], [], false⟩ := by unfold takenS; rw [if_pos rfl]; rfl
  rw [e0]
  by_cases h0 : n = 0
  · subst h0
    have hx : l = [] := List.eq_nil_of_length_eq_zero hl.len
    subst hx
    clear hl e0
    go_enter Tryz.func96, Tryz.ntmps96
    go_wp2_with (fail)
    refine bodyPost_ret (v := sv 0 nilSl nilSl nilSl false) (by simp [results, Tryz.results96, go_sem]) rfl ?_
    exact ne_zero (by repeat (first | exact Ext.refl _ | refine Ext.alloc ?_ _ | refine Ext.setCell ?_ (by simp) _))
  · obtain ⟨⟨e, v⟩, hy, hyu, b, o, rfl, hyc, hyd⟩ := hl.get (k := 0) (by omega)
    have hg : (l.getD 0 (0, 0)).2 = v := by rw [List.getD_eq_getElem?_getD, hy]; rfl
    rw [hg]
    have b0 : ((n : Int) == 0) = false := by simp; omega
    have hp : (0 : Int) < n := by omega
    have X0 := Lib.hid ((Ext.new w (.cells #[] 99)).alloc (sb 0 nilSl nilSl nilSl false))
    have cd := X0.out.cell hyd
    have HU := Lib.hid hyu.2
    simp only [Nat.zero_mul, Nat.add_zero] at cd
    clear hl e0 hy hyu hyc hyd hg h0
    dsimp only [sb] at *
    go_enter Tryz.func96, Tryz.ntmps96
    go_wp2_with (fail)
    refine bodyPost_ret (v := sv v nilSl nilSl nilSl false) (by simp [results, Tryz.results96, go_sem]) rfl ?_
    exact ⟨by repeat (first | exact Ext.refl _ | refine Ext.alloc ?_ _ | refine Ext.setCell ?_ (by simp) _), nilSl, nilSl, nilSl, rfl, ⟨HU.out, (ss_zero _).2⟩, fun B _ => offS_nil B⟩

theorem max_is (n : Nat) (h : 0 < n) : max ((n : Int) - 1) 0 = ((n - 1 : Nat) : Int) := by omega

set_option maxHeartbeats 1000000 in
set_option maxRecDepth 100000 in
theorem set_taken (T : TypeId) (m : Int) (sl : Option Addr) (n c : Nat) (l : List Rs) (w : World) (hl : RS w sl n c l) : Calls Tryz.prog 112 #[kd T m, .slice sl n c] w (NE (takenS 2 l) w) := by
  rw [taken_set]
  have X0 := Lib.hid ((Ext.new w (kbt 106 T m)).alloc (sb 0 nilSl nilSl nilSl false))
  have hB := Lib.hid (bx_new (kbt 106 T m) 0 nilSl nilSl nilSl false w)
  have hn := hl.le
  have hlc := hl.lc
  obtain ⟨N, hN⟩ : ∃ N : Nat, N = n - 1 := ⟨_, rfl⟩
  have hcut := fun W => slice_hiRS sl n c N (by omega) W
  have HV := Lib.hid (values_any sl N c (l.take N) _ ((hl.take (by omega)).ext X0.out))
  have hq : RowKit.Hid (l.take (l.length - 1) = l.take N) := Lib.hid (by rw [hl.len, hN])
  have hmx : max ((n : Int) - 1) 0 = (N : Int) := by omega
  have hw1 : RowKit.wrap64 ((n : Int) - 1) = (n : Int) - 1 := by simp only [RowKit.wrap64]; omega
  have hw2 : IntKind.i64.wrap ((n : Int) - 1) = (n : Int) - 1 := by simp only [IntKind.wrap_i64]; omega
  clear hl hN
  dsimp only [kd, kbt, sb] at *
  go_enter Tryz.func112, Tryz.ntmps112
  go_wp2_with (first | (go_at_call 121; (with_reducible refine HV.out.mono ?_); rintro e w1 ⟨⟨ka, kn, kc⟩, rfl, hk, e1, ho⟩; obtain ⟨⟨r9, k9, v9, t9, cl9, g0, g1, g2, g3, g4⟩, z⟩ := hB.out.ext e1; have z0 := z 0; have z1 := z 1; have z2 := z 2; have z3 := z 3; have z4 := z 4; have X1 : RowKit.Hid (Ext w w1) := Lib.hid (X0.out.trans e1); have HK := Lib.hid hk; have HO := Lib.hid ho; clear e1 hk ho z hB HV X0))
  refine bodyPost_ret (v := sv 0 ⟨ka, kn, kc⟩ nilSl nilSl false) (by simp [results, Tryz.results112, go_sem, g0, g1, g2, g3, g4]) rfl ?_
  have hO := HO.out (w.heap.size + 1) (by simp)
  refine ⟨?_, ⟨ka, kn, kc⟩, nilSl, nilSl, rfl, ⟨u64_zero, ?_, WS.empty _ _ _ (by decide), NS.empty _ _ _ (by decide)⟩, fun B hB => ⟨fun _ => HO.out B (by simp; omega), (offS_nil B).2⟩⟩
  · repeat (first | (with_reducible exact X1.out) | (with_reducible refine Ext.setCell ?_ (Nat.le_succ _) _))
  · rw [hq.out]
    repeat (first | (with_reducible exact HK.out) | (with_reducible refine WS.far ?_ hO _ _))

set_option maxHeartbeats 1000000 in
set_option maxRecDepth 100000 in
theorem table_taken {k : Int} (hk : k = 3 ∨ k = 4) (T : TypeId) (m : Int) (sl : Option Addr) (n c : Nat) (l : List Rs) (w : World) (hl : RS w sl n c l) : Calls Tryz.prog 138 #[kd T m, .slice sl n c] w (NE (takenS k l) w) := by
  rw [taken_tab hk]
  have X0 := Lib.hid ((Ext.new w (kbt 107 T m)).alloc (sb 0 nilSl nilSl nilSl false))
  have hB := Lib.hid (bx_new (kbt 107 T m) 0 nilSl nilSl nilSl false w)
  have HP := Lib.hid (pairs_any sl n c l _ (hl.ext X0.out))
  have le := evR_len l
  have lo := odR_len l
  have HL := Lib.hid (show (odR l).length ≤ (evR l).length by omega)
  clear hl hk le lo
  dsimp only [kd, kbt, sb] at *
  go_enter Tryz.func138, Tryz.ntmps138
  go_wp2_with (first
    | (go_at_call 139; (with_reducible refine HP.out.mono ?_); rintro e w1 ⟨⟨ka, kn, kc⟩, ⟨va, vn, vc⟩, rfl, hk, hv, e1⟩; have hB1 := Lib.hid (hB.out.ext e1); have X1 : RowKit.Hid (Ext w w1) := Lib.hid (X0.out.trans e1); have hvk : vn ≤ kn := (by have h1 := HL.out; rw [hk.len, hv.len] at h1; exact h1); have hvc : vn ≤ kc := Nat.le_trans hvk hk.lc; have hcut := fun W => slice_hiRS ka kn kc vn hvc W; have HV1 := Lib.hid (values_any ka vn kc ((evR l).take vn) w1 (hk.take hvk)); have HV2 : RowKit.Hid (∀ W, Ext w1 W → _) := Lib.hid (fun W e => values_any va vn vc (odR l) W (hv.ext e)); have hvl := Lib.hid hv.len; have hs1 : w.heap.size + 2 ≤ w1.heap.size := (by have := e1.size; simpa using this); clear hk hv e1 HP hB X0 HL)
    | (go_at_call 121; (with_reducible refine HV1.out.mono ?_); rintro e w2 ⟨⟨ka2, kn2, kc2⟩, rfl, hk2, e2, ho2⟩; have HK2 := Lib.hid hk2; have HO2 := Lib.hid ho2; have E2 := Lib.hid e2; have HV3 := Lib.hid (HV2.out w2 e2); clear hk2 ho2 e2 HV1 HV2)
    | (go_at_call 121; (with_reducible refine HV3.out.mono ?_); rintro e w3 ⟨⟨va2, vn2, vc2⟩, rfl, hv2, e3, ho3⟩; obtain ⟨⟨r9, k9, v9, t9, cl9, g0, g1, g2, g3, g4⟩, z⟩ := (hB1.out.ext E2.out).ext e3; have z0 := z 0; have z1 := z 1; have z2 := z 2; have z3 := z 3; have z4 := z 4; have HV4 := Lib.hid hv2; have HO3 := Lib.hid ho3; have E3 := Lib.hid e3; have hs2 := E2.out.size; clear hv2 ho3 e3 z HV3 hB1))
  refine bodyPost_ret (v := sv 0 ⟨ka2, kn2, kc2⟩ ⟨va2, vn2, vc2⟩ nilSl false) (by simp [results, Tryz.results138, go_sem, g0, g1, g2, g3, g4]) rfl ?_
  have hO1 := HO2.out (w.heap.size + 1) (by omega)
  have hO2 := HO3.out (w.heap.size + 1) (by omega)
  refine ⟨?_, ⟨ka2, kn2, kc2⟩, ⟨va2, vn2, vc2⟩, nilSl, rfl, ⟨u64_zero, ?_, ?_, NS.empty _ _ _ (by decide)⟩, fun B hB => ⟨fun _ => HO2.out B (by omega), fun _ => HO3.out B (by omega), (offS_nil B).2.2⟩⟩
  · have hE := (X1.out.trans E2.out).trans E3.out
    repeat (first | (with_reducible exact hE) | (with_reducible refine Ext.setCell ?_ (Nat.le_succ _) _))
  · rw [hvl.out]
    have hK := HK2.out.ext E3.out
    repeat (first | (with_reducible exact hK) | (with_reducible refine WS.far ?_ hO1 _ _))
  · repeat (first | (with_reducible exact HV4.out) | (with_reducible refine WS.far ?_ hO2 _ _))

end Go.Proofs.YtdipddnnckfnmaaGreat.Lan

/- LanBtk:
  taken of a ballot. Conditions: what was told are answers, at most so many.
-/
namespace Go.Proofs.YtdipddnnckfnmaaGreat.Lan
open Go.RowKit (Below intOf)
open Go.Proofs.YtdipddnnckfnmaaGreat.Aut
open Go.Proofs.YtdipddnnckfnmaaGreat.Reg (cf bx fits_any)

/-- The state that is being taken. -/
structure VB (w wr : World) (i : Nat) (ta : Option Addr) (tc : Nat) (cl : Bool) (vs : List Int) : Prop where
  five : Five wr (w.heap.size + 1 + 1) 0 nilSl nilSl ⟨ta, i, tc⟩ cl
  fro : ∀ j, wr.frozen? ⟨w.heap.size + 1 + 1, j, none⟩ = false
  x : Bx wr (w.heap.size + 1)
  o : wr.ownsRow (w.heap.size + 1 + 1 + 1) 3 1 (.slice ta i tc) i (flatNS vs)
  e : Ext w wr
  s : w.heap.size + 1 + 1 + 1 ≤ wr.heap.size
theorem vb_new (w : World) (m : Int) (cl : Bool) : VB w (((w.alloc (bbx m)).alloc (sb 0 nilSl nilSl nilSl false)).alloc (sb 0 nilSl nilSl nilSl cl)) 0 none 0 cl [] := by
  have hs : ((w.alloc (bbx m)).alloc (sb 0 nilSl nilSl nilSl false)).heap.size = w.heap.size + 1 + 1 := by simp
  refine ⟨?_, fun j => ?_, (bx_new (bbx m) 0 nilSl nilSl nilSl false w).ext (Ext.new _ _), World.ownsRow_nil _ _ _ _, ((Ext.new w _).alloc _).alloc _, by simp⟩
  · rw [← hs]; exact five_new _ 0 nilSl nilSl nilSl cl
  · rw [← hs]; unfold World.frozen?; rw [World.alloc_heap_new]; rfl
theorem bx_gr {w w' : World} {B : Nat} {row : Option Nat} (h : Bx w B) (g : w.grownBy w' row) (hne : some B ≠ row) : Bx w' B := by
  obtain ⟨r, k, v, t, cl, h5⟩ := h.c
  have hb := World.block_lt_of_cell? w _ h5.1
  exact ⟨⟨r, k, v, t, cl, g.cell h5.1 hne, g.cell h5.2.1 hne, g.cell h5.2.2.1 hne, g.cell h5.2.2.2.1 hne, g.cell h5.2.2.2.2 hne⟩, fun i => (g.frozen_far ⟨B, i, none⟩ hb hne).trans (h.f i)⟩
/-- One more vote. -/
theorem VB.more {w wr : World} {i : Nat} {ta : Option Addr} {tc : Nat} {cl : Bool} {vs : List Int} (h : VB w wr i ta tc cl vs) (hi : i ≤ 1048576) (o1 : Obj) (z : Int) (hz : I64 z) :
    ∃ sl' c' wx, RowKit.Hid ((Builtin.append_ #[28, 28] 28 #[.slice ta i tc, .slice (some ⟨wr.heap.size + 1, 0, none⟩) 1 1]).run Tryz.prog ((wr.alloc o1).alloc (.cells #[.int .i64 z] 3)) = .ok (.slice sl' (i + 1) c') wx) ∧
      (wx.cell? ⟨w.heap.size + 1 + 1, 3, none⟩ = some (.slice ta i tc) ∧ wx.frozen? ⟨w.heap.size + 1 + 1, 3, none⟩ = false) ∧ VB w (wx.setCell ⟨w.heap.size + 1 + 1, 3, none⟩ (.slice sl' (i + 1) c')) (i + 1) sl' c' cl (vs ++ [z]) := by
  have hE : Ext wr ((wr.alloc o1).alloc (.cells #[.int .i64 z] 3)) := (Ext.new wr _).alloc _
  have hsz : (wr.alloc o1).heap.size = wr.heap.size + 1 := by simp
  have hL := NS.lit (wr.alloc o1) z hz
  rw [hsz] at hL
  have hs := h.s
  obtain ⟨sl', c', wx, RX, OX, GX⟩ := appNS (own_ext h.o hE) hL (i + 1) rfl (by omega) (by simp; omega)
  have hne : ∀ B, B < w.heap.size + 1 + 1 + 1 → some B ≠ (Value.slice ta i tc).ownBlock := fun B hB e => by have := h.o.lt B e.symm; omega
  have h5 := h.five.ext hE
  have f5 : ∀ j, ((wr.alloc o1).alloc (.cells #[.int .i64 z] 3)).frozen? ⟨w.heap.size + 1 + 1, j, none⟩ = false := fun j => (Below.frozen (p := ⟨w.heap.size + 1 + 1, j, none⟩) hE (by show w.heap.size + 1 + 1 < wr.heap.size; omega)).trans (h.fro j)
  have n2 := hne (w.heap.size + 1 + 1) (by omega)
  have fx : ∀ j, wx.frozen? ⟨w.heap.size + 1 + 1, j, none⟩ = false := fun j => (GX.frozen_far ⟨w.heap.size + 1 + 1, j, none⟩ (by simp; omega) n2).trans (f5 j)
  have g5 : Five wx (w.heap.size + 1 + 1) 0 nilSl nilSl ⟨ta, i, tc⟩ cl := ⟨GX.cell h5.1 n2, GX.cell h5.2.1 n2, GX.cell h5.2.2.1 n2, GX.cell h5.2.2.2.1 n2, GX.cell h5.2.2.2.2 n2⟩
  have hgs := GX.size
  have ob : (Value.slice sl' (i + 1) c').ownBlock ≠ some (w.heap.size + 1 + 1) := fun e => by have := OX.lt _ e; omega
  refine ⟨sl', c', wx, RX, ⟨g5.2.2.2.1, fx 3⟩, ⟨set_five g5.1 (by decide), set_five g5.2.1 (by decide), set_five g5.2.2.1 (by decide), set_same g5.2.2.2.1, set_five g5.2.2.2.2 (by decide)⟩, fun j => (World.frozen?_setCell _ _ _ _).trans (fx j), (bx_gr (h.x.ext hE) GX (hne _ (by omega))).set (by omega), own_set OX ob, ?_, ?_⟩
  · exact ((h.e.trans hE).grown GX (fun k e => by have := h.o.lt k e; omega)).setCell (by omega) _
  · simp at hgs; simp; omega

set_option maxHeartbeats 2000000 in
set_option maxRecDepth 100000 in
theorem bal_taken (m : Int) (sl : Option Addr) (n c : Nat) (l : List Rs) (w : World) (hl : RS w sl n c l) : Calls Tryz.prog 148 #[.agg #[.int .i64 m], .slice sl n c] w (NE (takenS 5 l) w) := by
  rw [taken_bal, hl.len]
  have hn := hl.le
  have hlc := hl.lc
  by_cases h9 : n < 9
  · rw [if_pos h9]
    have b9 : (n : Int) < 9 := by omega
    clear hl h9
    go_enter Tryz.func148, Tryz.ntmps148
    go_wp2_with (fail)
    refine bodyPost_ret (v := sv 0 nilSl nilSl nilSl false) (by simp [results, Tryz.results148, go_sem]) rfl ?_
    exact ne_zero (by repeat (first | exact Ext.refl _ | refine Ext.alloc ?_ _ | refine Ext.setCell ?_ (by simp) _))
  · rw [if_neg h9]
    have b9 : ¬ (n : Int) < 9 := by omega
    obtain ⟨⟨e, v⟩, hy, hyu, b, o, hb0, hyc, hyd⟩ := hl.get (k := 0) (by omega)
    have hg : (l.getD 0 (0, 0)).2 = v := by rw [List.getD_eq_getElem?_getD, hy]; rfl
    rw [hg]
    have hv2 : (v != 0) = decide (v ≠ 0) := by by_cases c : v = 0 <;> simp [c]
    generalize decide (v ≠ 0) = cl at *
    have hp : (0 : Int) < n := by omega
    have X0 := Lib.hid ((Ext.new w (bbx m)).alloc (sb 0 nilSl nilSl nilSl false))
    have cd := X0.out.cell hyd
    simp only [Nat.zero_mul, Nat.add_zero] at cd
    have HD0 := hl.drop (k := 9) (by omega)
    have VN := Lib.hid (vb_new w m cl)
    subst hb0
    unfold cutAt at HD0
    clear hl hy hyu hyc hyd hg h9
    dsimp only [sb, bbx] at *
    by_cases hc9 : c = 9
    · subst hc9
      obtain rfl : n = 9 := by omega
      have hdl : l.drop 9 = [] := List.eq_nil_of_length_eq_zero (by rw [if_pos rfl] at HD0; simpa using HD0.len)
      rw [hdl]
      clear HD0 hdl VN
      go_enter Tryz.func148, Tryz.ntmps148
      go_wp2_with (fail)
      go_rounds 1
      refine bodyPost_ret (v := sv 0 nilSl nilSl nilSl cl) (by simp [results, Tryz.results148, go_sem]) rfl ?_
      exact ⟨by repeat (first | exact Ext.refl _ | refine Ext.alloc ?_ _ | refine Ext.setCell ?_ (by simp) _), nilSl, nilSl, nilSl, rfl, (ss_zero _), fun B _ => offS_nil B⟩
    · rw [if_neg hc9, Option.map_some, add_is] at HD0
      have HD := Lib.hid HD0
      clear HD0
      go_enter Tryz.func148, Tryz.ntmps148
      go_wp2_with (fail)
      go_loopg [21] (n - 9) (fun kx s21 wr => ∃ (i : Nat) (ta : Option Addr) (tc : Nat), s21 = .int .i64 i ∧ i ≤ n - 9 ∧ (n - 9) - i ≤ kx ∧ RowKit.Hid (VB w wr i ta tc cl (((l.drop 9).take i).map fun r => asInt r.2)))
      case atStart => exact ⟨0, none, 0, rfl, Nat.zero_le _, by omega, VN⟩
      case round =>
        obtain ⟨i, ta, tc, rfl, hi, hg, D⟩ := hrel
        have h5 := D.out.five
        obtain ⟨p0, p1, p2, p3, p4⟩ := h5
        dsimp only at p1 p2 p3
        by_cases hlt : i < n - 9
        · have hlt2 : (i : Int) < ((n - 9 : Nat) : Int) := by omega
          obtain ⟨⟨e, y⟩, hy, hyu, b', o', eb, hyc, hyd⟩ := HD.out.get hlt
          cases eb
          have cm := D.out.e.cell hyc
          have ce := D.out.e.cell hyd
          dsimp only at cm ce
          obtain ⟨sx, cx, wx, RX, ⟨gx, fx⟩, VX⟩ := D.out.more (by omega) (.cells #[.int .i64 e, .int .u64 y] 51) (RowKit.wrap64 y) (asInt_i y)
          have HVX := Lib.hid VX
          have HY := Lib.hid hy
          have q3 := box_alloc (x := .cells #[.int .i64 e, .int .u64 y] 51) p3
          clear VX hyc hyd hyu hy VN X0
          go_wp2_with (first | (at_builtin; refine Lib.wpList_append_run _ rfl (.tmp 26) (.tmp 30) _ _ rfl _ _ rfl rfl _ _ RX.out ?_))
          go_roundg (n - 9 - (i + 1))
          case measure => omega
          case rel => exact ⟨i + 1, sx, cx, by first | rfl | (congr 1; omega), by omega, by omega, Lib.hid (by rw [take_snoc HY.out, List.map_append]; exact HVX.out)⟩
        · obtain rfl : i = n - 9 := by omega
          have hlt2 : ¬ (((n - 9 : Nat) : Int)) < ((n - 9 : Nat) : Int) := by omega
          have hq : RowKit.Hid ((l.drop 9).take (n - 9) = l.drop 9) := Lib.hid (List.take_of_length_le (by rw [HD.out.len]; exact Nat.le_refl _))
          obtain ⟨⟨r9, k9, v9, t9, cl9, g0, g1, g2, g3, g4⟩, z⟩ := D.out.x
          have z0 := z 0
          have z1 := z 1
          have z2 := z 2
          have z3 := z 3
          have z4 := z 4
          clear z VN X0
          go_wp2_with (fail)
          refine bodyPost_ret (v := sv 0 nilSl nilSl ⟨ta, n - 9, tc⟩ cl) (by simp [results, Tryz.results148, go_sem, g0, g1, g2, g3, g4]) rfl ?_
          have hD := D.out
          rw [hq.out] at hD
          have hoff : ∀ B, B < w.heap.size + 1 + 1 + 1 → Off ta B := fun B hB => off_block (k := ⟨ta, n - 9, tc⟩) (fun e => by have := hD.o.lt _ e; omega)
          refine ⟨?_, nilSl, nilSl, ⟨ta, n - 9, tc⟩, rfl, ⟨u64_zero, WS.empty _ _ _ (by decide), WS.empty _ _ _ (by decide), ?_⟩, fun B hB => ⟨(offS_nil B).1, (offS_nil B).2.1, fun _ => hoff B (by omega)⟩⟩
          · have hE := hD.e
            repeat (first | (with_reducible exact hE) | (with_reducible refine Ext.setCell ?_ (Nat.le_succ _) _))
          · have hN := NS.of_own hD.o (by rw [List.length_map, HD.out.len]) (by omega) (fun y hy => by obtain ⟨r, _, rfl⟩ := List.mem_map.1 hy; exact asInt_i _)
            have hO := hoff (w.heap.size + 1) (by omega)
            dsimp only
            try rw [List.map_drop] at hN
            repeat (first | (with_reducible exact hN) | (with_reducible refine NS.far ?_ hO _ _))

end Go.Proofs.YtdipddnnckfnmaaGreat.Lan

/- LanSee:
  Seen: the state of which what was told is the read-out. Conditions: what was told are answers, at most so many.
-/
namespace Go.Proofs.YtdipddnnckfnmaaGreat.Lan
open Go.RowKit (Below intOf)
open Go.Proofs.YtdipddnnckfnmaaGreat.Aut
open Go.Proofs.YtdipddnnckfnmaaGreat.Reg (cf bx fits_any)

/-- How an object is asked for the state that it was. -/
def TaI (k : Int) (T : TypeId) (V : Value) (f : Nat) (V' : Value) : Prop :=
  (∀ w, Sem.run Tryz.prog (method 267 T V "whitewash/auto.taken") w = .ok (f, V') w) ∧ (∀ a w, Sem.run Tryz.prog (callFunc f #[V', a]) w = .ok (.enter f #[V', a]) w) ∧
    ∀ sl n c l w, RS w sl n c l → Calls Tryz.prog f #[V', .slice sl n c] w (NE (takenS k l) w)
theorem ta_obj {k p m : Int} (hf : fits k p m = true) : ∃ f V', TaI k (oT k) (oV k m) f V' := by
  rcases kinds hf with rfl | rfl | rfl | rfl | rfl
  · exact ⟨96, kE, fun w => by kernel_rfl, fun a w => by kernel_rfl, fun sl n c l w hl => reg_taken sl n c l w hl⟩
  · exact ⟨112, kd (kT 2) m, fun w => by kernel_rfl, fun a w => by kernel_rfl, fun sl n c l w hl => set_taken _ m sl n c l w hl⟩
  · exact ⟨138, kd (kT 3) m, fun w => by kernel_rfl, fun a w => by kernel_rfl, fun sl n c l w hl => table_taken (.inl rfl) _ m sl n c l w hl⟩
  · exact ⟨138, kd (kT 4) m, fun w => by kernel_rfl, fun a w => by kernel_rfl, fun sl n c l w hl => table_taken (.inr rfl) _ m sl n c l w hl⟩
  · exact ⟨148, .agg #[.int .i64 m], fun w => by kernel_rfl, fun a w => by kernel_rfl, fun sl n c l w hl => bal_taken m sl n c l w hl⟩

set_option maxHeartbeats 4000000 in
set_option maxRecDepth 100000 in
theorem seen_any (k p m : Int) (sl : Option Addr) (n c : Nat) (l : List Rs) (w : World) (hl : RS w sl n c l) : Calls Tryz.prog 25 #[cf k p m, .slice sl n c] w (SE (seenF k p m l).1 w (fun v => .tuple #[v, .bool (seenF k p m l).2])) := by
  have X0 := Lib.hid ((Ext.new w (bx k p m)).alloc (sb 0 nilSl nilSl nilSl false))
  have hB := Lib.hid (bx_new (bx k p m) 0 nilSl nilSl nilSl false w)
  have hF := Lib.hid (fun w => fits_any k p m w)
  by_cases hf : fits k p m = true
  · obtain ⟨ft, Vt, mt, et, ct⟩ := ta_obj hf
    obtain ⟨fi, Vi, mi, ei, ci⟩ := is_obj hf
    have hf' : Reg.fits k p m = true := hf
    rw [hf'] at hF
    have HO := Lib.hid (fun W => object_any k p m W)
    have HT : RowKit.Hid (∀ W, Ext w W → Calls Tryz.prog ft #[Vt, .slice sl n c] W (NE (takenS k l) W)) := Lib.hid fun W e => ct sl n c l W (hl.ext e)
    have HI : RowKit.Hid (∀ a v t s W, SS W a v t s → Calls Tryz.prog fi #[Vi, sv s.reg a v t s.closed] W fun e w' => e = .returned (.bool (rightS k p m s)) ∧ Ext W w') := Lib.hid ci
    have HRo : RowKit.Hid (∀ a v t s W, rightS k p m s = true → SS W a v t s → Calls Tryz.prog 39 #[.iface (oT k) (oV k m), sv s.reg a v t s.closed] W fun e w' => ∃ l : Sl, e = .returned (.slice l.a l.n l.c) ∧ RS w' l.a l.n l.c (outS k s) ∧ Ext W w') := Lib.hid fun a v t s W hR hS => readout_any hR a v t W hS
    have HL := Lib.hid hl
    have hS := seen_is (k := k) (p := p) (m := m) (l := l)
    generalize takenS k l = s at *
    generalize hOT : oT k = OT at *
    generalize hOV : oV k m = OV at *
    rw [← hS]
    clear ct ci hl hf hf' hOT hOV hS
    obtain ⟨sr, sk, sv', sw, scl⟩ := s
    dsimp only [cf, bx, sb] at *
    by_cases hR : rightS k p m ⟨sr, sk, sv', sw, scl⟩ = true
    · by_cases hE : outS k ⟨sr, sk, sv', sw, scl⟩ = l
      · rw [if_pos ⟨hR, hE⟩]
        have HDec : RowKit.Hid (true = decide (outS k ⟨sr, sk, sv', sw, scl⟩ = l)) := Lib.hid (decide_eq_true hE).symm
        clear hE
        go_enter Tryz.func25, Tryz.ntmps25
        go_wp2_with (first
          | (go_at_call 35; (with_reducible refine (hF.out _).mono ?_); rintro e w' ⟨rfl, rfl⟩)
          | (go_at_call 36; (with_reducible refine (HO.out _).mono ?_); rintro e w' ⟨rfl, rfl⟩)
          | (go_at_fn ft; (with_reducible refine (HT.out _ (by repeat (first | exact X0.out | refine Ext.alloc ?_ _))).mono ?_); rintro e w1 ⟨e1, ⟨ka, kn, kc⟩, ⟨va, vn, vc⟩, ⟨ta, tn, tc⟩, rfl, hS, hO⟩; have E1 : RowKit.Hid (Ext w w1) := Lib.hid (Ext.trans (by repeat (first | exact X0.out | refine Ext.alloc ?_ _)) e1); have HB1 := Lib.hid ((hB.out.ext (by repeat (first | exact Ext.refl _ | refine Ext.alloc ?_ _))).ext e1); have HSS := Lib.hid (hS.ext (Ext.new w1 (.cells #[.int .u64 sr, .slice ka kn kc, .slice va vn vc, .slice ta tn tc, .bool scl] 30))); have HOf := Lib.hid (hO (w.heap.size + 1) (by simp)); obtain ⟨f0, f1, f2, f3, f4⟩ := five_new w1 sr ⟨ka, kn, kc⟩ ⟨va, vn, vc⟩ ⟨ta, tn, tc⟩ scl; have hs1 : w.heap.size + 2 ≤ w1.heap.size := (by have := e1.size; simp at this; omega); clear e1 hS hO HT; dsimp only [sv, sb] at *)
          | (go_at_fn fi; (with_reducible refine (HI.out ⟨ka, kn, kc⟩ ⟨va, vn, vc⟩ ⟨ta, tn, tc⟩ ⟨sr, sk, sv', sw, scl⟩ _ HSS.out).mono ?_); rintro e w2 ⟨rfl, e2⟩; replace f0 := e2.cell f0; replace f1 := e2.cell f1; replace f2 := e2.cell f2; replace f3 := e2.cell f3; replace f4 := e2.cell f4; have E2 : RowKit.Hid (Ext w w2) := Lib.hid (Ext.trans (E1.out.alloc (.cells #[.int .u64 sr, .slice ka kn kc, .slice va vn vc, .slice ta tn tc, .bool scl] 30)) e2); have HB2 := Lib.hid ((HB1.out.ext (Ext.new w1 (.cells #[.int .u64 sr, .slice ka kn kc, .slice va vn vc, .slice ta tn tc, .bool scl] 30))).ext e2); have HS2 := Lib.hid (HSS.out.ext e2); clear e2 HI HSS; (simp only [hR]))
          | (go_at_call 39; (with_reducible refine (HRo.out ⟨ka, kn, kc⟩ ⟨va, vn, vc⟩ ⟨ta, tn, tc⟩ ⟨sr, sk, sv', sw, scl⟩ _ hR HS2.out).mono ?_); rintro e w3 ⟨⟨la, ln, lc⟩, rfl, h3, e3⟩; replace f0 := e3.cell f0; replace f1 := e3.cell f1; replace f2 := e3.cell f2; replace f3 := e3.cell f3; replace f4 := e3.cell f4; have E3 : RowKit.Hid (Ext w w3) := Lib.hid (E2.out.trans e3); have HB3 := Lib.hid (HB2.out.ext e3); have HS3 := Lib.hid (HS2.out.ext e3); have HEq := Lib.hid (equal_any la sl ln n lc c _ l true w3 h3 (HL.out.ext E3.out) (Lib.hid HDec.out)); clear e3 h3 HRo)
          | (go_at_call 52; (with_reducible refine HEq.out.mono ?_); rintro e w4 ⟨rfl, q4, rfl⟩; obtain ⟨⟨r9, k9, v9, t9, cl9, g0, g1, g2, g3, g4⟩, z⟩ := HB3.out; have z0 := z 0; have z1 := z 1; have z2 := z 2; have z3 := z 3; have z4 := z 4; clear z HB3 HEq))
        refine bodyPost_ret (v := .tuple #[sv sr ⟨ka, kn, kc⟩ ⟨va, vn, vc⟩ ⟨ta, tn, tc⟩ scl, .bool true]) (by simp [results, Tryz.results25, go_sem, g0, g1, g2, g3, g4]) rfl ?_
        refine ⟨?_, ⟨ka, kn, kc⟩, ⟨va, vn, vc⟩, ⟨ta, tn, tc⟩, rfl, ?_⟩
        · repeat (first | (with_reducible exact E3.out) | (with_reducible refine Ext.setCell ?_ (Nat.le_succ _) _) | (with_reducible refine Ext.drewN ?_ _))
        · repeat (first | (with_reducible exact HS3.out) | (with_reducible refine SS.set ?_ HOf.out _ _) | (with_reducible refine SS.ext ?_ (Ext.draws _ _)))
      · rw [if_neg (fun c => hE c.2)]
        have HDec : RowKit.Hid (false = decide (outS k ⟨sr, sk, sv', sw, scl⟩ = l)) := Lib.hid (decide_eq_false hE).symm
        clear hE
        go_enter Tryz.func25, Tryz.ntmps25
        go_wp2_with (first
          | (go_at_call 35; (with_reducible refine (hF.out _).mono ?_); rintro e w' ⟨rfl, rfl⟩)
          | (go_at_call 36; (with_reducible refine (HO.out _).mono ?_); rintro e w' ⟨rfl, rfl⟩)
          | (go_at_fn ft; (with_reducible refine (HT.out _ (by repeat (first | exact X0.out | refine Ext.alloc ?_ _))).mono ?_); rintro e w1 ⟨e1, ⟨ka, kn, kc⟩, ⟨va, vn, vc⟩, ⟨ta, tn, tc⟩, rfl, hS, hO⟩; have E1 : RowKit.Hid (Ext w w1) := Lib.hid (Ext.trans (by repeat (first | exact X0.out | refine Ext.alloc ?_ _)) e1); have HB1 := Lib.hid ((hB.out.ext (by repeat (first | exact Ext.refl _ | refine Ext.alloc ?_ _))).ext e1); have HSS := Lib.hid (hS.ext (Ext.new w1 (.cells #[.int .u64 sr, .slice ka kn kc, .slice va vn vc, .slice ta tn tc, .bool scl] 30))); have HOf := Lib.hid (hO (w.heap.size + 1) (by simp)); obtain ⟨f0, f1, f2, f3, f4⟩ := five_new w1 sr ⟨ka, kn, kc⟩ ⟨va, vn, vc⟩ ⟨ta, tn, tc⟩ scl; have hs1 : w.heap.size + 2 ≤ w1.heap.size := (by have := e1.size; simp at this; omega); clear e1 hS hO HT; dsimp only [sv, sb] at *)
          | (go_at_fn fi; (with_reducible refine (HI.out ⟨ka, kn, kc⟩ ⟨va, vn, vc⟩ ⟨ta, tn, tc⟩ ⟨sr, sk, sv', sw, scl⟩ _ HSS.out).mono ?_); rintro e w2 ⟨rfl, e2⟩; replace f0 := e2.cell f0; replace f1 := e2.cell f1; replace f2 := e2.cell f2; replace f3 := e2.cell f3; replace f4 := e2.cell f4; have E2 : RowKit.Hid (Ext w w2) := Lib.hid (Ext.trans (E1.out.alloc (.cells #[.int .u64 sr, .slice ka kn kc, .slice va vn vc, .slice ta tn tc, .bool scl] 30)) e2); have HB2 := Lib.hid ((HB1.out.ext (Ext.new w1 (.cells #[.int .u64 sr, .slice ka kn kc, .slice va vn vc, .slice ta tn tc, .bool scl] 30))).ext e2); have HS2 := Lib.hid (HSS.out.ext e2); clear e2 HI HSS; (simp only [hR]))
          | (go_at_call 39; (with_reducible refine (HRo.out ⟨ka, kn, kc⟩ ⟨va, vn, vc⟩ ⟨ta, tn, tc⟩ ⟨sr, sk, sv', sw, scl⟩ _ hR HS2.out).mono ?_); rintro e w3 ⟨⟨la, ln, lc⟩, rfl, h3, e3⟩; replace f0 := e3.cell f0; replace f1 := e3.cell f1; replace f2 := e3.cell f2; replace f3 := e3.cell f3; replace f4 := e3.cell f4; have E3 : RowKit.Hid (Ext w w3) := Lib.hid (E2.out.trans e3); have HB3 := Lib.hid (HB2.out.ext e3); have HS3 := Lib.hid (HS2.out.ext e3); have HEq := Lib.hid (equal_any la sl ln n lc c _ l false w3 h3 (HL.out.ext E3.out) (Lib.hid HDec.out)); clear e3 h3 HRo)
          | (go_at_call 52; (with_reducible refine HEq.out.mono ?_); rintro e w4 ⟨rfl, q4, rfl⟩; obtain ⟨⟨r9, k9, v9, t9, cl9, g0, g1, g2, g3, g4⟩, z⟩ := HB3.out; have z0 := z 0; have z1 := z 1; have z2 := z 2; have z3 := z 3; have z4 := z 4; clear z HB3 HEq))
        refine bodyPost_ret (v := .tuple #[sv 0 nilSl nilSl nilSl false, .bool false]) (by simp [results, Tryz.results25, go_sem, g0, g1, g2, g3, g4]) rfl ?_
        refine ⟨?_, nilSl, nilSl, nilSl, rfl, ss_zero _⟩
        repeat (first | (with_reducible exact E3.out) | (with_reducible refine Ext.setCell ?_ (Nat.le_succ _) _) | (with_reducible refine Ext.drewN ?_ _))
    · rw [if_neg (fun c => hR c.1)]
      have hR0 : rightS k p m ⟨sr, sk, sv', sw, scl⟩ = false := by simpa using hR
      clear hR
      go_enter Tryz.func25, Tryz.ntmps25
      go_wp2_with (first
        | (go_at_call 35; (with_reducible refine (hF.out _).mono ?_); rintro e w' ⟨rfl, rfl⟩)
        | (go_at_call 36; (with_reducible refine (HO.out _).mono ?_); rintro e w' ⟨rfl, rfl⟩)
        | (go_at_fn ft; (with_reducible refine (HT.out _ (by repeat (first | exact X0.out | refine Ext.alloc ?_ _))).mono ?_); rintro e w1 ⟨e1, ⟨ka, kn, kc⟩, ⟨va, vn, vc⟩, ⟨ta, tn, tc⟩, rfl, hS, hO⟩; have E1 : RowKit.Hid (Ext w w1) := Lib.hid (Ext.trans (by repeat (first | exact X0.out | refine Ext.alloc ?_ _)) e1); have HB1 := Lib.hid ((hB.out.ext (by repeat (first | exact Ext.refl _ | refine Ext.alloc ?_ _))).ext e1); have HSS := Lib.hid (hS.ext (Ext.new w1 (.cells #[.int .u64 sr, .slice ka kn kc, .slice va vn vc, .slice ta tn tc, .bool scl] 30))); have HOf := Lib.hid (hO (w.heap.size + 1) (by simp)); obtain ⟨f0, f1, f2, f3, f4⟩ := five_new w1 sr ⟨ka, kn, kc⟩ ⟨va, vn, vc⟩ ⟨ta, tn, tc⟩ scl; have hs1 : w.heap.size + 2 ≤ w1.heap.size := (by have := e1.size; simp at this; omega); clear e1 hS hO HT; dsimp only [sv, sb] at *)
        | (go_at_fn fi; (with_reducible refine (HI.out ⟨ka, kn, kc⟩ ⟨va, vn, vc⟩ ⟨ta, tn, tc⟩ ⟨sr, sk, sv', sw, scl⟩ _ HSS.out).mono ?_); rintro e w2 ⟨rfl, e2⟩; replace f0 := e2.cell f0; replace f1 := e2.cell f1; replace f2 := e2.cell f2; replace f3 := e2.cell f3; replace f4 := e2.cell f4; have E2 : RowKit.Hid (Ext w w2) := Lib.hid (Ext.trans (E1.out.alloc (.cells #[.int .u64 sr, .slice ka kn kc, .slice va vn vc, .slice ta tn tc, .bool scl] 30)) e2); have HB2 := Lib.hid ((HB1.out.ext (Ext.new w1 (.cells #[.int .u64 sr, .slice ka kn kc, .slice va vn vc, .slice ta tn tc, .bool scl] 30))).ext e2); have HS2 := Lib.hid (HSS.out.ext e2); clear e2 HI HSS; simp only [hR0]; obtain ⟨⟨r9, k9, v9, t9, cl9, g0, g1, g2, g3, g4⟩, z⟩ := HB2.out; have z0 := z 0; have z1 := z 1; have z2 := z 2; have z3 := z 3; have z4 := z 4; clear z HB2))
      refine bodyPost_ret (v := .tuple #[sv 0 nilSl nilSl nilSl false, .bool false]) (by simp [results, Tryz.results25, go_sem, g0, g1, g2, g3, g4]) rfl ?_
      refine ⟨?_, nilSl, nilSl, nilSl, rfl, ss_zero _⟩
      repeat (first | (with_reducible exact E2.out) | (with_reducible refine Ext.setCell ?_ (Nat.le_succ _) _) | (with_reducible refine Ext.drewN ?_ _))
  · have hf' : Reg.fits k p m = false := Bool.eq_false_iff.2 hf
    rw [hf'] at hF
    have hN : RowKit.Hid (seenF k p m l = (zeroS, false)) := Lib.hid (by unfold seenF; rw [if_neg (fun c => hf c.1)])
    clear hf hf' hB hl
    dsimp only [cf, bx, sb] at *
    go_enter Tryz.func25, Tryz.ntmps25
    go_wp2_with (first
      | (go_at_call 35; (with_reducible refine (hF.out _).mono ?_); rintro e w' ⟨rfl, rfl⟩))
    refine bodyPost_ret (v := .tuple #[sv 0 nilSl nilSl nilSl false, .bool false]) (by simp [results, Tryz.results25, go_sem]) rfl ?_
    rw [hN.out]
    exact ⟨by repeat (first | exact X0.out | refine Ext.alloc ?_ _ | refine Ext.setCell ?_ (by simp) _), nilSl, nilSl, nilSl, rfl, ss_zero _⟩

end Go.Proofs.YtdipddnnckfnmaaGreat.Lan

/- LanCi:
  What a register and a ballot do to a state of their own. Conditions: the state is right, and the call's words are words.
-/
namespace Go.Proofs.YtdipddnnckfnmaaGreat.Lan
open Go.RowKit (Below intOf)
open Go.Proofs.YtdipddnnckfnmaaGreat.Aut
open Go.Proofs.YtdipddnnckfnmaaGreat.Reg (cf bx fits_any)

theorem ci_reg {m : Int} {s : St} {o : Cl} (ho : Wc o) : CI 1 m s o (oT 1) (oV 1 m) := by
  refine ⟨93, kE, fun w => by kernel_rfl, fun a b w => by kernel_rfl, fun W M w B a v t h => ?_⟩
  have e : doS 1 m s o = regS s o := by unfold doS; rw [if_pos rfl]
  rw [e]
  obtain ⟨c, x, y⟩ := o
  exact reg_call h.P c x y ho.2.2
theorem ci_bal {p m : Int} {s : St} {o : Cl} (hR : rightS 5 p m s = true) (ho : Wc o) : CI 5 m s o (oT 5) (oV 5 m) := by
  obtain ⟨hf, he, _, _, h5⟩ := right_iff.1 hR
  have hb := fits_of hf
  have hV := h5 rfl
  obtain ⟨n, rfl⟩ : ∃ n : Nat, m = n := ⟨m.toNat, by omega⟩
  refine ⟨145, .agg #[.int .i64 (n : Int)], fun w => by kernel_rfl, fun a b w => by kernel_rfl, fun W M w B a v t h => ?_⟩
  have e : doS 5 n s o = ballotS n s o := by unfold doS; rw [if_neg (by decide), if_neg (show ¬ keyed 5 = true by decide)]
  rw [e]
  obtain ⟨c, x, y⟩ := o
  have e2 := he.2.1.resolve_left (by decide)
  have hl := hV.1
  have hn := h.P.ss.2.2.2.len
  have hg : ∃ g, t.a = some ⟨g, 0, none⟩ ∧ W.heap.size ≤ g ∧ g < M ∧ g ≠ B ∧ ∀ i, w.frozen? ⟨g, i, none⟩ = false := by
    have hrt := h.R.rt
    rcases hrt.2 with ⟨_, hz⟩ | ⟨g, cap, cur, e, hb2, _⟩
    · omega
    · have ea : t.a = some ⟨g, 0, none⟩ := by injection e
      have hob : (Value.slice t.a t.n t.c).ownBlock = some g := by rw [ea]; rfl
      obtain ⟨m1, m2⟩ := h.m g (.inr (.inr hob))
      rw [ea] at hrt
      exact ⟨g, ea, hb2, m1, m2, fun i => hrt.frozenAt i⟩
  exact ballot_call ⟨h.P, hV, by omega, by omega, e2.1, e2.2, ho.2.1, ho.2.2, hg⟩ c

end Go.Proofs.YtdipddnnckfnmaaGreat.Lan

/- LanIns:
  slices.Insert of one word, at the end of a row of one's own. Conditions: the words are words.
-/
namespace Go.Proofs.YtdipddnnckfnmaaGreat.Lan
open Go.RowKit (Below intOf)
open Go.Proofs.YtdipddnnckfnmaaGreat.Aut
open Go.Proofs.YtdipddnnckfnmaaGreat.Reg (cf bx fits_any)

/-- append of one word onto a row of one's own. -/
theorem addWS {w : World} {base n c : Nat} {sl : Option Addr} {ys : List Int} (hown : w.ownsRow base 26 1 (.slice sl n c) n (flatWS ys)) {b : Nat} {z : Int} (hS : WS w (some ⟨b, 0, none⟩) 1 1 [z]) (hle : n + 1 ≤ 4194304) (hbase : base ≤ w.heap.size) :
    ∃ sl' c' w', RowKit.Hid ((Builtin.append_ #[27, 27] 27 #[.slice sl n c, .slice (some ⟨b, 0, none⟩) 1 1]).run Tryz.prog w = .ok (.slice sl' (n + 1) c') w') ∧ w'.ownsRow base 26 1 (.slice sl' (n + 1) c') (n + 1) (flatWS (ys ++ [z])) ∧ w.grownBy w' (Value.slice sl n c).ownBlock ∧
      ((Value.slice sl' (n + 1) c').ownBlock = (Value.slice sl n c).ownBlock ∨ (Value.slice sl' (n + 1) c').ownBlock = some w.heap.size) := by
  obtain ⟨i0, hi, hz0, hz1, hz2⟩ := info_parts infoWS
  obtain ⟨v', w', hrun, h2, h3, _, h5⟩ := run_append_own_at (P := Tryz.prog) w base 27 27 26 i0 _ 1 8 Tryz.underlying27 hi hz0 hz1 hz2 rfl (by decide) _ n (flatWS ys) hown ⟨b, 0, none⟩ 1 1 (flatWS [z]) (by rw [flatWS_len]; rfl) hS.news (flatWS_one [z]) (by unfold maxLen; omega) (by omega) hbase
  obtain ⟨sl', c', rfl⟩ := own_form h2
  exact ⟨sl', c', w', Lib.hid hrun, by rw [flatWS_append]; exact h2, h3, h5⟩
/-- What Insert answers. -/
def InE (w : World) (sl : Option Addr) (n c : Nat) (ys : List Int) (e : Ending) (w' : World) : Prop :=
  ∃ sl' c', e = .returned (.slice sl' (n + 1) c') ∧ WS w' sl' (n + 1) c' ys ∧ w.grownBy w' (Value.slice sl n c).ownBlock ∧ ∀ g, (Value.slice sl' (n + 1) c').ownBlock = some g → (Value.slice sl n c).ownBlock = some g ∨ w.heap.size ≤ g

set_option maxHeartbeats 1000000 in
set_option maxRecDepth 100000 in
theorem insert_end {w : World} {base n c b : Nat} {sl : Option Addr} {ys : List Int} {z : Int} (hown : w.ownsRow base 26 1 (.slice sl n c) n (flatWS ys)) (hl : ys.length = n) (hS : WS w (some ⟨b, 0, none⟩) 1 1 [z]) (hle : n ≤ 1000000) (hbase : base ≤ w.heap.size) (hu : ∀ y ∈ ys, U64 y) :
    Calls Tryz.prog 130 #[.slice sl n c, .int .i64 (n : Int), .slice (some ⟨b, 0, none⟩) 1 1] w (InE w sl n c (ys ++ [z])) := by
  obtain ⟨sx, cx, wx, RX, OX, GX, AX⟩ := addWS hown hS (by omega) hbase
  have hcut := fun W => slice_loWS sl n c n (Nat.le_refl _) W
  have hz : U64 z := hS.range z (List.mem_singleton.2 rfl)
  have HF : RowKit.Hid (InE w sl n c (ys ++ [z]) (.returned (.slice sx (n + 1) cx)) wx) := Lib.hid ⟨sx, cx, rfl, WS.of_own OX (by rw [List.length_append, hl]; rfl) (by omega) (fun y hy => by
    rcases List.mem_append.1 hy with h | h
    · exact hu y h
    · rw [List.mem_singleton.1 h]; exact hz), GX, fun g hg => by
      rcases AX with a | a
      · exact .inl (a ▸ hg)
      · rw [a] at hg; cases hg; exact .inr (Nat.le_refl _)⟩
  generalize cutAt 1 sl c n = ct at *
  clear hown hl hS hbase hu OX GX AX hz
  go_enter Tryz.func130, Tryz.ntmps130
  go_wp2_with (first
    | (at_builtin; refine Lib.wpList_append_run _ rfl (.tmp 23) (.tmp 24) _ _ rfl _ _ rfl rfl _ _ RX.out ?_))
  go_ret
  exact HF.out

end Go.Proofs.YtdipddnnckfnmaaGreat.Lan

/- LanDrop:
  drop: a key is taken away. Conditions: the state lies in a box that may be written, its rows are one's own, and its keys rise.
-/
namespace Go.Proofs.YtdipddnnckfnmaaGreat.Lan
open Go.RowKit (Below intOf)
open Go.Proofs.YtdipddnnckfnmaaGreat.Aut
open Go.Proofs.YtdipddnnckfnmaaGreat.Reg (cf bx fits_any)

set_option maxHeartbeats 1000000 in
set_option maxRecDepth 100000 in
theorem drop_no {k : Int} {T : TypeId} {fk fr fl B : Nat} {sl : Option Addr} {n c : Nat} {s : St} {x : Int} {w : World} (h : Ky k T fk fr fl B sl n c s x w) (m : Int) (E : Int) (hE : (mayK k x = true ∧ hitK k s.keys (meantK k x) = false ∧ E = 12) ∨ (mayK k x = false ∧ E = 10)) :
    Calls Tryz.prog 117 #[kd T m, .pointer (some ⟨B, 0, none⟩), .int .u64 x] w fun e w' => e = .panicked (noE E) ∧ Ext w w' := by
  have X0 := Lib.hid (Ext.new w (kb T m))
  obtain ⟨k0, k1⟩ := kb_new T m w
  have HF : RowKit.Hid (Calls Tryz.prog 126 #[kd T m, .pointer (some ⟨B, 0, none⟩), .int .u64 x] (w.alloc (kb T m)) fun e w' => e = .panicked (noE E) ∧ Ext (w.alloc (kb T m)) w') := Lib.hid (by
      have h' := h.ext X0.out
      rcases hE with ⟨h1, h2, rfl⟩ | ⟨h1, rfl⟩
      · exact (place_may h'.I m x B sl n c s.keys _ h'.W h'.x h'.r h'.b h1 false h2).mono fun e w' q => ⟨by have := q.1; rw [if_neg (by simp)] at this; exact this, q.2⟩
      · exact place_bad h'.I m x B _ h'.x h1)
  clear h hE
  dsimp only [kd, kb] at *
  go_enter Tryz.func117, Tryz.ntmps117
  go_wp2_with (first | (go_at_call 126; (with_reducible refine HF.out.mono ?_); rintro e w' ⟨rfl, hE⟩))
  exact ⟨rfl, rfl, X0.out.trans hE⟩

/-- What drop leaves. -/
def DrE (W : World) (M : Nat) (w : World) (B : Nat) (s : St) (a : Sl) (P : Nat) (e : Ending) (w' : World) : Prop :=
  e = .returned (.int .i64 (P : Nat)) ∧ ∃ w1 w2 g, Ext w w1 ∧ w1.grownBy w2 (some g) ∧ a.a = some ⟨g, 0, none⟩ ∧ W.heap.size ≤ g ∧ g < M ∧ WS w2 a.a (a.n - 1) a.c (withoutL s.keys P) ∧ w' = w2.setCell ⟨B, 1, none⟩ (.slice a.a (a.n - 1) a.c)

set_option maxHeartbeats 1000000 in
set_option maxRecDepth 100000 in
theorem drop_yes {W : World} {M : Nat} {w : World} {B : Nat} {s : St} {a v t : Sl} {k : Int} {T : TypeId} {fk fr fl : Nat} {x : Int} (hW : WB W M w B s a v t) (h : Ky k T fk fr fl B a.a a.n a.c s x w) (m : Int) (hm : mayK k x = true) (hh : hitK k s.keys (meantK k x) = true) (P : Nat) (hP : posK k s.keys (meantK k x) = P) (hPn : P < a.n) :
    Calls Tryz.prog 117 #[kd T m, .pointer (some ⟨B, 0, none⟩), .int .u64 x] w (DrE W M w B s a P) := by
  have X0 := Lib.hid (Ext.new w (kb T m))
  obtain ⟨k0, k1⟩ := kb_new T m w
  have HF : RowKit.Hid (Calls Tryz.prog 126 #[kd T m, .pointer (some ⟨B, 0, none⟩), .int .u64 x] (w.alloc (kb T m)) fun e w' => e = .returned (.int .i64 (P : Nat)) ∧ Ext (w.alloc (kb T m)) w') := Lib.hid (by
      have h' := h.ext X0.out
      exact (place_may h'.I m x B a.a a.n a.c s.keys _ h'.W h'.x h'.r h'.b hm true hh).mono fun e w' q => ⟨by have := q.1; rw [if_pos rfl, hP] at this; exact this, q.2⟩)
  have HD : RowKit.Hid (∀ w1, Ext w w1 → _) := Lib.hid fun w1 e => delete_any W.heap.size a.a a.n a.c s.keys P w1 (own_ext hW.R.rk e) hW.P.ss.2.1.len hW.P.ss.2.1.le hPn hW.P.ss.2.1.range
  have HB : RowKit.Hid (∀ w1, Ext w w1 → w1.cell? ⟨B, 1, none⟩ = some (.slice a.a a.n a.c) ∧ w1.frozen? ⟨B, 1, none⟩ = false) := Lib.hid fun w1 e => ⟨(hW.P.ext e).five.2.1, (hW.P.ext e).fro 1⟩
  have HG : RowKit.Hid (∀ g, a.a = some ⟨g, 0, none⟩ → W.heap.size ≤ g ∧ g < M ∧ g ≠ B) := Lib.hid fun g e => by
    have ho : (Value.slice a.a a.n a.c).ownBlock = some g := by rw [e]; rfl
    exact ⟨(hW.R.rk.lt _ ho).1, hW.m g (.inl ho)⟩
  have hPb := hW.P.ss.2.1.le
  clear hW h hm hh hP
  obtain ⟨ka, kn, kc⟩ := a
  dsimp only [kd, kb] at *
  go_enter Tryz.func117, Tryz.ntmps117
  go_wp2_with (first
    | (go_at_call 126; (with_reducible refine HF.out.mono ?_); rintro e w1 ⟨rfl, e1⟩; have E1 : RowKit.Hid (Ext w w1) := Lib.hid (X0.out.trans e1); obtain ⟨c1, c2⟩ := HB.out w1 E1.out; have HD1 := Lib.hid (HD.out w1 E1.out); clear e1 HF HD X0)
    | (go_at_call 127; (with_reducible refine HD1.out.mono ?_); rintro e w2 ⟨rfl, hws, g, rfl, hg⟩; obtain ⟨q1, q2, q3⟩ := HG.out g rfl; have d1 := hg.cell c1 (by simp; omega); have d2 := (hg.frozen_far ⟨B, 1, none⟩ (World.block_lt_of_cell? w1 _ c1) (by simp; omega)).trans c2; have HWS := Lib.hid hws; have HGr := Lib.hid hg; clear hws hg HD1 HG HB))
  go_ret
  exact ⟨rfl, w1, w2, g, E1.out, HGr.out, rfl, q1, q2, HWS.out, rfl⟩

end Go.Proofs.YtdipddnnckfnmaaGreat.Lan

