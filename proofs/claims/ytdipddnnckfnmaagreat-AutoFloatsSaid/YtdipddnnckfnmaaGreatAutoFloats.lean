/-
  AutoFloats: for every input the law returns true, and each argument reads behind the call as it read before. No condition.
-/
import Derived.Test.YtdipddnnckfnmaaGreatM24
import Derived.ProofKit
/- LawFacts:
  What puts, gets and the next key tell, over lists. Conditions: the state is right, its numbers are words.
-/
namespace Go.Proofs.YtdipddnnckfnmaaGreat.Law
open Go.Proofs.YtdipddnnckfnmaaGreat.Aut

theorem tab_of {k m : Int} {s : St} {o : Cl} {x : Int} (hk : keyed k = true) (h9 : o.code ≠ 9) (hm : mayK k o.key = true) (hx : meantK k o.key = x) : doS k m s o = placedS k m s o x (posK k s.keys x) (hereK s.keys (posK k s.keys x) x) := by
  have c1 : ¬ k = 1 := by have := keyed_cases hk; omega
  unfold doS
  rw [if_neg c1, if_pos hk]
  unfold tableS
  rw [if_neg h9, if_pos hm, hx]
/-- A put of a key with a value. -/
theorem put_v {k p m : Int} {s : St} (hv : valued k = true) (hR : rightS k p m s = true) {a y x : Int} (hm : mayK k a = true) (hx : meantK k a = x) :
    (doS k m s ⟨11, a, y⟩ = (s, (11, 0)) ∧ (s.keys.length : Int) = m ∧ hereK s.keys (posK k s.keys x) x = false) ∨
    ∃ t r, doS k m s ⟨11, a, y⟩ = (t, (0, r)) ∧ t.keys[posK k s.keys x]? = some x ∧ t.vals[posK k s.keys x]? = some y := by
  have hk := valued_of hv
  have hK := keys_of hR hk
  have hl : s.vals.length = s.keys.length := by have := hK.2.1; rwa [if_pos hv] at this
  have hp := pos_le k s.keys x
  rw [tab_of hk (by simp) hm hx]
  cases hh : hereK s.keys (posK k s.keys x) x with
  | true =>
    have hi := here_lt hh
    refine .inr ⟨{ s with vals := s.vals.set (posK k s.keys x) y }, s.vals.getD (posK k s.keys x) 0, by simp [placedS, hv], of_decide_eq_true hh, ?_⟩
    exact List.getElem?_set_self (by omega)
  | false =>
    by_cases hf : (s.keys.length : Int) = m
    · exact .inl ⟨by simp [placedS, hv, hf], hf, rfl⟩
    · refine .inr ⟨{ s with keys := withL s.keys (posK k s.keys x) x, vals := withL s.vals (posK k s.keys x) y }, 0, by simp [placedS, hv, hf], ?_, ?_⟩
      · simp only [with_get _ _ _ hp]; simp
      · simp only [with_get _ _ _ (show posK k s.keys x ≤ s.vals.length by omega)]; simp
theorem get_v {k m : Int} {t : St} (hv : valued k = true) (hK : KeysOk k m t) {i : Nat} {x v : Int} (hx : t.keys[i]? = some x) (hvl : t.vals[i]? = some v) : doS k m t ⟨10, x, 0⟩ = (t, (0, v)) := by
  have hk := valued_of hv
  obtain ⟨hm, hy⟩ := hK.2.2.1 x (List.mem_of_getElem? hx)
  have hp := pos_here hK.2.2.2 hx
  have hh : hereK t.keys i x = true := decide_eq_true hx
  rw [tab_of hk (by simp) hy hm, hp, hh]
  simp [placedS, hv, hvl]
theorem get_no {k m : Int} {s : St} (hv : valued k = true) {x : Int} (hm : mayK k x = true) (mx : meantK k x = x) (hh : hereK s.keys (posK k s.keys x) x = false) : doS k m s ⟨10, x, 0⟩ = (s, (12, 0)) := by
  rw [tab_of (valued_of hv) (by simp) hm mx, hh]
  simp [placedS, hv]
theorem next_v {k m : Int} {t : St} (hk : keyed k = true) (hK : KeysOk k m t) {i : Nat} {x a b : Int} (hm : mayK k a = true) (hx : meantK k a = x) (hi : t.keys[i]? = some x) : doS k m t ⟨8, a, b⟩ = nextS t (if b ≠ 0 then i + 1 else i) := by
  have hp := pos_here hK.2.2.2 hi
  have hh : hereK t.keys i x = true := decide_eq_true hi
  rw [tab_of hk (by simp) hm hx, hp, hh]
  simp [placedS]

/-- What AutoFloats asks of an Order: the key's word is canonical; what comes next is not less. -/
theorem floats_order {s : St} (hR : rightS 4 1 30 s = true) (hW : Wd s) {a b v : Int} (ha : U64 a) (hv : U64 v) :
    ∃ t q r n, doS 4 30 s ⟨11, a, v⟩ = (t, q) ∧ doS 4 30 t ⟨10, canon a, 0⟩ = (t, r) ∧ doS 4 30 t ⟨8, a, b⟩ = (t, n) ∧ rightS 4 1 30 t = true ∧ Wd t ∧
      ((r = (12, 0) ∧ s.keys.length = 30) ∨ (r = (0, v) ∧ (n = (12, 0) ∨ ∃ y, n = (0, y) ∧ U64 y ∧ (b = 0 → y = canon a) ∧ (b ≠ 0 → less a y = true)))) := by
  have hv4 : valued 4 = true := by decide
  have hk4 : keyed 4 = true := by decide
  have hm : mayK 4 a = true := by unfold mayK; simp
  have hmc : mayK 4 (canon a) = true := by unfold mayK; simp
  have hx : meantK 4 a = canon a := by unfold meantK; simp
  have hxc : meantK 4 (canon a) = canon a := by unfold meantK; simp [canon_canon]
  have hwc : Wc ⟨11, a, v⟩ := ⟨by unfold I64; simp, ha, hv⟩
  obtain ⟨hRt, hWt⟩ := do_right hR hW ⟨11, a, v⟩ hwc
  rcases put_v (y := v) hv4 hR hm hx with ⟨e, hl, hh⟩ | ⟨t, q, e, h1, h2⟩
  · have hl' : s.keys.length = 30 := by omega
    have hn : ∃ n, doS 4 30 s ⟨8, a, b⟩ = (s, n) := ⟨_, by
      have := do_reads (k := 4) (m := 30) (s := s) (o := ⟨8, a, b⟩) (show readsS 8 = true by decide)
      exact Prod.ext this rfl⟩
    obtain ⟨n, hn⟩ := hn
    exact ⟨s, (11, 0), (12, 0), n, e, get_no hv4 hmc hxc hh, hn, hR, hW, .inl ⟨rfl, hl'⟩⟩
  · rw [e] at hRt hWt
    have hK := keys_of hRt hk4
    have hn := next_v (b := b) hk4 hK hm hx h1
    have hgo := get_v (m := 30) hv4 hK h1 h2
    refine ⟨t, (0, q), (0, v), (nextS t (if b ≠ 0 then posK 4 s.keys (canon a) + 1 else posK 4 s.keys (canon a))).2, e, hgo, ?_, hRt, hWt, .inr ⟨rfl, ?_⟩⟩
    · rw [hn]; exact Prod.ext (next_same _ _) rfl
    · by_cases hb0 : b = 0
      · rw [if_neg (by simp [hb0]), next_some h1]
        exact .inr ⟨canon a, rfl, ⟨canon_lo a ha.1, canon_hi a ha.2⟩, fun _ => rfl, fun h => absurd hb0 h⟩
      · rw [if_pos hb0]
        cases hy : t.keys[posK 4 s.keys (canon a) + 1]? with
        | none => exact .inl (next_none hy)
        | some y =>
          refine .inr ⟨y, next_some hy, hWt.2.1 y (List.mem_of_getElem? hy), fun h => absurd h hb0, fun _ => ?_⟩
          have := hK.2.2.2.lt h1 hy (Nat.lt_succ_self _)
          unfold ordK at this
          simp only [if_pos] at this
          unfold less
          refine decide_eq_true ?_
          have h3 := ord_meant (k := 4) ha
          unfold ordK meantK at h3
          simp only [if_pos] at h3
          omega
/-- What it asks of a Register. -/
theorem sum_can {a b : Int} (ha : U64 a) (hb : U64 b) : sumOf (canon a) b = sumOf a b := by
  rw [← sumOf_canon (canon a) b (canon_lo a ha.1) (canon_hi a ha.2) hb.1 hb.2, canon_canon, sumOf_canon a b ha.1 ha.2 hb.1 hb.2]
theorem max_can {a b : Int} : maxOf (canon a) b = maxOf a b := by
  have e : rank (canon a) = rank a := by unfold rank; rw [canon_canon]
  unfold maxOf; rw [e, canon_canon]
theorem reg_right {x : Int} (h : canon x = x) : rightS 1 1 1 ⟨x, [], [], [], false⟩ = true := by
  refine right_iff.2 ⟨by decide, ⟨.inl rfl, .inr ⟨rfl, rfl⟩, .inr ⟨rfl, rfl⟩⟩, fun _ => h, fun e => absurd e (by decide), fun e => by omega⟩
theorem floats_reg {a b : Int} (ha : U64 a) (hb : U64 b) :
    doS 1 1 zeroS ⟨2, 0, a⟩ = (⟨canon a, [], [], [], false⟩, (0, 0)) ∧ doS 1 1 ⟨canon a, [], [], [], false⟩ ⟨4, 0, b⟩ = (⟨sumOf a b, [], [], [], false⟩, (0, sumOf a b)) ∧ doS 1 1 ⟨canon a, [], [], [], false⟩ ⟨3, 0, b⟩ = (⟨maxOf a b, [], [], [], false⟩, (0, maxOf a b)) := by
  refine ⟨by simp [doS, regS, zeroS], ?_, ?_⟩
  · simp [doS, regS, sum_can ha hb]
  · simp [doS, regS, max_can]

end Go.Proofs.YtdipddnnckfnmaaGreat.Law

/- LawFloats:
  AutoFloats: the walk. Conditions: the words' bounds; the raw calls can be read.
-/
namespace Go.Proofs.YtdipddnnckfnmaaGreat.Law
open Go.RowKit (Below intOf)
open Go.Proofs.YtdipddnnckfnmaaGreat.Aut
open Go.Proofs.YtdipddnnckfnmaaGreat.Lan (DoE DoE2 opv do_all do_all2)
open Go.Proofs.YtdipddnnckfnmaaGreat.Reg (cf bx fits_any)

theorem do_f {k p m : Int} {s : St} {o : Cl} {t : St} {r : Rs} (hR : rightS k p m s = true) (h : doS k m s o = (t, r)) : doF k p m s o = (t, r, 0) := by
  unfold doF; rw [if_pos (right_fits hR), if_pos hR, h]
theorem wc_put {a v : Int} (ha : U64 a) (hv : U64 v) : Wc ⟨11, a, v⟩ := ⟨by unfold I64; simp, ha, hv⟩
theorem wc_get {a : Int} (ha : U64 a) : Wc ⟨10, canon a, 0⟩ := ⟨by unfold I64; simp, ⟨canon_lo a ha.1, canon_hi a ha.2⟩, by unfold U64; simp⟩
theorem wc_next {a b : Int} (ha : U64 a) (hb : U64 b) : Wc ⟨8, a, b⟩ := ⟨by unfold I64; simp, ha, hb⟩
theorem wc_val {c v : Int} (hc : decide (0 ≤ c ∧ c < 100) = true) (hv : U64 v) : Wc ⟨c, 0, v⟩ := ⟨by unfold I64; simp only; have := of_decide_eq_true hc; omega, by unfold U64; simp, hv⟩
def flDeps : Nat → List Nat := fun i => match i with | 4 => [3] | 5 => [4] | 6 => [5] | 7 => [5, 6] | 8 => [5, 6] | 9 => [5, 6] | _ => []
def flSlots : Nat → Option Tmp := fun i => match i with | 3 => some 50 | 4 => some 51 | 5 => some 52 | 6 => some 46 | 7 => some 53 | 8 => some 54 | 9 => some 55 | 10 => some 15 | 11 => some 16 | _ => none
def FlF (ca tr : Int) (tcl : Bool) (r1 r2 : Int) (wr : World) : Nat → (Nat → Value) → World → Prop := fun i vs w' => match i with
  | 3 => vs 3 = .int .u64 ca
  | 4 => vs 4 = .agg #[.int .i64 10, .int .u64 ca, .int .u64 0]
  | 5 => ∃ (a v t : Sl), vs 5 = .tuple #[sv tr a v t tcl, rv r1 r2, .int .i64 0]
  | 6 => vs 6 = vs 5
  | 7 => ∃ x y z, vs 5 = .tuple #[x, y, z] ∧ vs 7 = x
  | 8 => ∃ x y z, vs 5 = .tuple #[x, y, z] ∧ vs 8 = y
  | 9 => ∃ x y z, vs 5 = .tuple #[x, y, z] ∧ vs 9 = z
  | 10 => ∃ B : Nat, vs 10 = .pointer (some ⟨B, 0, none⟩) ∧ wr.heap.size ≤ B ∧ Cb w' B (sc 0 nilSl nilSl nilSl false)
  | 11 => ∃ B : Nat, vs 11 = .pointer (some ⟨B, 0, none⟩) ∧ wr.heap.size ≤ B ∧ Cb w' B [.int .i64 0, .int .u64 0]
  | _ => True
def FlX : Nat → Nat → (Nat → Value) → Prop := fun i j vs => i = 10 ∨ j = 10 → i = 11 ∨ j = 11 → ∀ B B' : Nat, vs 10 = .pointer (some ⟨B, 0, none⟩) → vs 11 = .pointer (some ⟨B', 0, none⟩) → B ≠ B'
theorem flF_loc {ca tr : Int} {tcl : Bool} {r1 r2 : Int} {wr : World} : ∀ i vs vs' w, (∀ j, j = i ∨ j ∈ flDeps i → vs j = vs' j) → FlF ca tr tcl r1 r2 wr i vs w → FlF ca tr tcl r1 r2 wr i vs' w := by
  intro i vs vs' w h hF
  unfold FlF at hF ⊢
  split at hF
  · exact (h 3 (.inl rfl)).symm.trans hF
  · exact (h 4 (.inl rfl)).symm.trans hF
  · obtain ⟨a, v, t, h1⟩ := hF; exact ⟨a, v, t, (h 5 (.inl rfl)).symm.trans h1⟩
  · exact (h 6 (.inl rfl)).symm.trans (hF.trans (h 5 (.inr (by decide))))
  · obtain ⟨x, y, z, h1, h2⟩ := hF; exact ⟨x, y, z, (h 5 (.inr (by decide))).symm.trans h1, (h 7 (.inl rfl)).symm.trans h2⟩
  · obtain ⟨x, y, z, h1, h2⟩ := hF; exact ⟨x, y, z, (h 5 (.inr (by decide))).symm.trans h1, (h 8 (.inl rfl)).symm.trans h2⟩
  · obtain ⟨x, y, z, h1, h2⟩ := hF; exact ⟨x, y, z, (h 5 (.inr (by decide))).symm.trans h1, (h 9 (.inl rfl)).symm.trans h2⟩
  · obtain ⟨B, h1, h2⟩ := hF; exact ⟨B, (h 10 (.inl rfl)).symm.trans h1, h2⟩
  · obtain ⟨B, h1, h2⟩ := hF; exact ⟨B, (h 11 (.inl rfl)).symm.trans h1, h2⟩
  · trivial
theorem flF_stab {ca tr : Int} {tcl : Bool} {r1 r2 : Int} {wr : World} : ∀ i vs w w', Ext w w' → FlF ca tr tcl r1 r2 wr i vs w → FlF ca tr tcl r1 r2 wr i vs w' := by
  intro i vs w w' h hF
  unfold FlF at hF ⊢
  split at hF <;> first | exact hF | (obtain ⟨B, h1, h2, h3⟩ := hF; exact ⟨B, h1, h2, h3.ext h⟩) | trivial
theorem flX_loc : ∀ i j vs vs', vs i = vs' i → vs j = vs' j → FlX i j vs → FlX i j vs' := by
  intro i j vs vs' hi hj h1 h10 h11 B B' e1 e2
  refine h1 h10 h11 B B' ?_ ?_
  · rcases h10 with rfl | rfl
    · exact hi.trans e1
    · exact hj.trans e1
  · rcases h11 with rfl | rfl
    · exact hi.trans e2
    · exact hj.trans e2
theorem flX_no {i j : Nat} {vs : Nat → Value} (h0 : i ≠ 10) (h1 : i ≠ 11) : FlX i j vs := by
  intro h10 h11; omega
theorem flX_box {ca tr : Int} {tcl : Bool} {r1 r2 : Int} {wr w5 : World} {i j : Nat} {vs : Nat → Value} (hi : i = 10 ∨ i = 11) (_ : j ≠ i) (hF : FlF ca tr tcl r1 r2 wr j vs w5) : FlX i j (Par.upd vs i (.pointer (some ⟨w5.heap.size, 0, none⟩))) := by
  have hup : ∀ x, x ≠ i → Par.upd vs i (.pointer (some ⟨w5.heap.size, 0, none⟩)) x = vs x := fun x h => if_neg h
  have hus : Par.upd vs i (.pointer (some ⟨w5.heap.size, 0, none⟩)) i = .pointer (some ⟨w5.heap.size, 0, none⟩) := if_pos rfl
  intro h10 h11 B B' e1 e2
  rcases hi with rfl | rfl
  · rw [hus] at e1
    cases e1
    have hj : j = 11 := by omega
    subst hj
    rw [hup 11 (by omega)] at e2
    obtain ⟨B2, e3, _, h⟩ := hF
    cases e3.symm.trans e2
    have := h.lt
    omega
  · rw [hus] at e2
    cases e2
    have hj : j = 10 := by omega
    subst hj
    rw [hup 10 (by omega)] at e1
    obtain ⟨B2, e3, _, h⟩ := hF
    cases e3.symm.trans e1
    have := h.lt
    omega
theorem flX_ne {vs : Nat → Value} {B B' : Nat} (h : FlX 10 11 vs ∨ FlX 11 10 vs) (e1 : vs 10 = .pointer (some ⟨B, 0, none⟩)) (e2 : vs 11 = .pointer (some ⟨B', 0, none⟩)) : B ≠ B' := by
  rcases h with h | h
  · exact h (.inl rfl) (.inr rfl) B B' e1 e2
  · exact h (.inr rfl) (.inl rfl) B B' e1 e2
set_option maxHeartbeats 16000000 in
set_option maxRecDepth 100000 in
theorem floats_walk (a b v : Int) (s0 : Option Addr) (n0 c0' : Nat) (w : World) (hT : TS w s0 n0) (ha : U64 a) (hb : U64 b) (hv : U64 v) :
    Calls Tryz.prog 7 #[.slice s0 n0 c0', .int .u64 a, .int .u64 b, .int .u64 v] w fun e w' => e = .returned (.bool true) ∧ Ext w w' := by
  have HA := Lib.hid (fun W => awake_any do_all W)
  have HT := Lib.hid hT
  have HU := Lib.hid (And.intro ha (And.intro hb hv))
  clear hT ha hb hv
  go_enter Tryz.func7, Tryz.ntmps7
  go_wp2_with (fail)
  refine (HA.out _).mono ?_
  rintro e w1 ⟨rfl, e1⟩
  have C1 : Cb (w1.alloc (.cells #[.int .i64 4, .int .i64 1, .int .i64 30] 24)) w1.heap.size [.int .i64 4, .int .i64 1, .int .i64 30] := Cb.new w1 _ _
  have HX1 := Lib.hid (e1.alloc (.cells #[.int .i64 4, .int .i64 1, .int .i64 30] 24))
  obtain ⟨c0, c1, c2⟩ := C1.three
  have HC := Lib.hid C1
  have HSt := Lib.hid (state_any s0 n0 c0' (w1.alloc (.cells #[.int .i64 4, .int .i64 1, .int .i64 30] 24)) (k := 4) (p := 1) (m := 30) (by decide) (HT.out.ext HX1.out))
  clear HA e1 C1
  dsimp only [cf] at *
  go_wp2_with (fail)
  refine HSt.out.mono ?_
  rintro e w2 ⟨⟨sr, sk, su, sw, scl⟩, hR2, ⟨ka, kn, kc⟩, ⟨va, vn, vc⟩, ⟨ta, tn, tc⟩, rfl, S2, e2⟩
  dsimp only [sv] at *
  obtain ⟨⟨tr, tk, tu, tw, tcl⟩, ⟨q1, q2⟩, ⟨r1, r2⟩, ⟨n1, n2⟩, hd1, hd2, hd3, hRt, hWt, hcs⟩ := floats_order hR2 S2.wd HU.out.1 (b := b) HU.out.2.2
  have hE2 : Ext w1 (w2.alloc (.cells #[.int .u64 sr, .slice ka kn kc, .slice va vn vc, .slice ta tn tc, .bool scl] 30)) := ((Ext.new w1 _).trans e2).alloc _
  have hSS : SS (w2.alloc (.cells #[.int .u64 sr, .slice ka kn kc, .slice va vn vc, .slice ta tn tc, .bool scl] 30)) ⟨ka, kn, kc⟩ ⟨va, vn, vc⟩ ⟨ta, tn, tc⟩ ⟨sr, sk, su, sw, scl⟩ := S2.ext (Ext.new _ _)
  have hCs : Cb (w2.alloc (.cells #[.int .u64 sr, .slice ka kn kc, .slice va vn vc, .slice ta tn tc, .bool scl] 30)) w2.heap.size (sc sr ⟨ka, kn, kc⟩ ⟨va, vn, vc⟩ ⟨ta, tn, tc⟩ scl) := Cb.new w2 _ _
  have hCc := (HC.out.ext e2).alloc (.cells #[.int .u64 sr, .slice ka kn kc, .slice va vn vc, .slice ta tn tc, .bool scl] 30)
  have HD := do_all2 4 1 30 ⟨ka, kn, kc⟩ ⟨va, vn, vc⟩ ⟨ta, tn, tc⟩ ⟨sr, sk, su, sw, scl⟩ ⟨11, a, v⟩ (w2.alloc (.cells #[.int .u64 sr, .slice ka kn kc, .slice va vn vc, .slice ta tn tc, .bool scl] 30)) hSS (wc_put HU.out.1 HU.out.2.2)
  rw [do_f hR2 hd1] at HD
  have HDo := Lib.hid HD
  have hkn : sk.length = kn := S2.2.1.len
  have HK := Lib.hid hkn
  clear HSt HC S2 c0 c1 c2 HD hSS hkn
  obtain ⟨c0, c1, c2⟩ := hCc.three
  obtain ⟨s0, s1, s2, s3, s4⟩ := hCs.five
  have HCc := Lib.hid hCc
  have HCs := Lib.hid hCs
  have HE2 := Lib.hid ((HX1.out.trans e2).alloc (.cells #[.int .u64 sr, .slice ka kn kc, .slice va vn vc, .slice ta tn tc, .bool scl] 30))
  have HR2 := Lib.hid (And.intro hR2 (And.intro hRt hWt))
  have HD2 := Lib.hid (And.intro hd2 hd3)
  have HCS := Lib.hid hcs
  clear hE2 hCc hCs hR2 hRt hWt hd1 hd2 hd3 hcs HX1 e2
  dsimp only [cf, sv, sc, opv] at *
  go_wp2_with (fail)
  refine HDo.out.mono ?_
  rintro e w3 ⟨e3, ⟨ka2, kn2, kc2⟩, ⟨va2, vn2, vc2⟩, ⟨ta2, tn2, tc2⟩, rfl, S3, O3⟩
  clear HDo c0 c1 c2 s0 s1 s2 s3 s4 O3
  dsimp only [sv, rv] at *
  have hE3 : Ext (w2.alloc (.cells #[.int .u64 sr, .slice ka kn kc, .slice va vn vc, .slice ta tn tc, .bool scl] 30)) ((w3.alloc (.cells #[.int .u64 tr, .slice ka2 kn2 kc2, .slice va2 vn2 vc2, .slice ta2 tn2 tc2, .bool tcl] 30)).alloc (.cells #[.int .i64 q1, .int .u64 q2] 51)) := (e3.alloc _).alloc _
  have hCt : Cb ((w3.alloc (.cells #[.int .u64 tr, .slice ka2 kn2 kc2, .slice va2 vn2 vc2, .slice ta2 tn2 tc2, .bool tcl] 30)).alloc (.cells #[.int .i64 q1, .int .u64 q2] 51)) w3.heap.size (sc tr ⟨ka2, kn2, kc2⟩ ⟨va2, vn2, vc2⟩ ⟨ta2, tn2, tc2⟩ tcl) := by repeat (first | ((with_reducible refine Cb.at _ rfl ?_); (simp; done)) | with_reducible refine Cb.alloc ?_ _)
  have hSt := S3.ext ((Ext.new w3 (.cells #[.int .u64 tr, .slice ka2 kn2 kc2, .slice va2 vn2 vc2, .slice ta2 tn2 tc2, .bool tcl] 30)).alloc (.cells #[.int .i64 q1, .int .u64 q2] 51))
  have hCc := HCc.out.ext hE3
  have hCs := HCs.out.ext hE3
  have hE := HE2.out.trans hE3
  clear HCc HCs HE2 hE3 e3 S3
  go_wp2_with (fail)
  generalize ((w3.alloc (.cells #[.int .u64 tr, .slice ka2 kn2 kc2, .slice va2 vn2 vc2, .slice ta2 tn2 tc2, .bool tcl] 30)).alloc (.cells #[.int .i64 q1, .int .u64 q2] 51)) = w4 at hCt hSt hCc hCs hE ⊢
  generalize w3.heap.size = T at *
  generalize w2.heap.size = Sb at *
  generalize w1.heap.size = Cc at *
  obtain ⟨c0, c1, c2⟩ := hCc.three
  obtain ⟨t0, t1, t2, t3, t4⟩ := hCt.five
  have HB := Lib.hid (And.intro hCt (And.intro hSt (And.intro hCc (And.intro hCs hE))))
  have HDg : RowKit.Hid (∀ W, Ext w4 W → _) := Lib.hid fun W (h : Ext w4 W) => do_all2 4 1 30 ⟨ka2, kn2, kc2⟩ ⟨va2, vn2, vc2⟩ ⟨ta2, tn2, tc2⟩ ⟨tr, tk, tu, tw, tcl⟩ ⟨10, canon a, 0⟩ W (hSt.ext h) (wc_get HU.out.1)
  rw [do_f HR2.out.2.1 HD2.out.1] at HDg
  clear hCt hSt hCc hCs hE
  try dsimp only [sc] at *
  refine wp_region_held_drew (S := fun w' => Ext w4 w') (by kernel_rfl) (Ext.drew (Ext.refl w4)) (fun hHeld => ?_)
  refine wpAnyH_take (i := 0) (v := .agg #[.int .i64 4, .int .i64 1, .int .i64 30]) rfl (by kernel_rfl) (by kernel_rfl) (by kernel_rfl) (fun _ _ _ h => h) (Or.inl ⟨by kernel_rfl, ?_⟩) (by assumption) ?_
  · intro w hE
    have q0 := hE.cell c0
    have q1 := hE.cell c1
    have q2 := hE.cell c2
    go_simp
  refine wpAnyH_take (i := 1) (v := .agg #[.int .u64 tr, .slice ka2 kn2 kc2, .slice va2 vn2 vc2, .slice ta2 tn2 tc2, .bool tcl]) rfl (by kernel_rfl) (by kernel_rfl) (by kernel_rfl) (fun _ _ _ h => h) (Or.inl ⟨by kernel_rfl, ?_⟩) (by assumption) ?_
  · intro w hE
    have q0 := hE.cell t0
    have q1 := hE.cell t1
    have q2 := hE.cell t2
    have q3 := hE.cell t3
    have q4 := hE.cell t4
    go_simp
  refine wpAnyH_take (i := 2) (v := .int .u64 a) rfl (by kernel_rfl) (by kernel_rfl) (by kernel_rfl) (fun _ _ _ h => h) (Or.inl ⟨by kernel_rfl, ?_⟩) (by assumption) ?_
  · intro w hE
    go_simp
  clear c0 c1 c2 t0 t1 t2 t3 t4
  refine Par.wpAnyH_par (fuel := 3) [3, 4, 5, 6, 7, 8, 9, 10, 11] [4, 6, 7, 8, 9] flDeps flSlots (FlF (canon a) tr tcl r1 r2 w4) FlX Ext rfl (by kernel_rfl) (by kernel_rfl) (by kernel_rfl) (fun _ _ _ _ _ h => h) Ext.refl (fun _ _ _ h g => Ext.trans h g) flF_loc flF_stab flX_loc (by assumption) ?_ ?_ ?_
  · refine List.forall_mem_cons.2 ⟨?_, List.forall_mem_cons.2 ⟨?_, List.forall_mem_cons.2 ⟨?_, List.forall_mem_cons.2 ⟨?_, List.forall_mem_cons.2 ⟨?_, fun _ h => by cases h⟩⟩⟩⟩⟩
    · refine ⟨_, rfl, fun done vs w5 hn hS5 hR5 hd hF => ?_⟩
      have e3 : vs 3 = .int .u64 (canon a) := hF 3 (hd 3 (by decide))
      refine ⟨.agg #[.int .i64 10, .int .u64 (canon a), .int .u64 0], Or.inl ⟨by kernel_rfl, ?_⟩, rfl, fun _ _ => flX_no (by decide) (by decide)⟩
      intro w hE
      simp only [flDeps, Par.putAll_nil, Par.putAll_some, flSlots]
      simp only [e3]
      go_simp
    · refine ⟨_, rfl, fun done vs w5 hn hS5 hR5 hd hF => ?_⟩
      obtain ⟨⟨ka6, kn6, kc6⟩, ⟨va6, vn6, vc6⟩, ⟨ta6, tn6, tc6⟩, e5⟩ := hF 5 (hd 5 (by decide))
      refine ⟨.tuple #[sv tr ⟨ka6, kn6, kc6⟩ ⟨va6, vn6, vc6⟩ ⟨ta6, tn6, tc6⟩ tcl, rv r1 r2, .int .i64 0], Or.inl ⟨by kernel_rfl, ?_⟩, e5.symm, fun _ _ => flX_no (by decide) (by decide)⟩
      intro w hE
      simp only [flDeps, Par.putAll_nil, Par.putAll_some, flSlots]
      simp only [e5]
      go_simp
    · refine ⟨_, rfl, fun done vs w5 hn hS5 hR5 hd hF => ?_⟩
      obtain ⟨⟨ka6, kn6, kc6⟩, ⟨va6, vn6, vc6⟩, ⟨ta6, tn6, tc6⟩, e5⟩ := hF 5 (hd 5 (by decide))
      have e6 : vs 6 = vs 5 := hF 6 (hd 6 (by decide))
      refine ⟨sv tr ⟨ka6, kn6, kc6⟩ ⟨va6, vn6, vc6⟩ ⟨ta6, tn6, tc6⟩ tcl, Or.inl ⟨by kernel_rfl, ?_⟩, ⟨_, _, _, e5, rfl⟩, fun _ _ => flX_no (by decide) (by decide)⟩
      intro w hE
      simp only [flDeps, Par.putAll_nil, Par.putAll_some, flSlots]
      simp only [e6, e5]
      go_simp
    · refine ⟨_, rfl, fun done vs w5 hn hS5 hR5 hd hF => ?_⟩
      obtain ⟨⟨ka6, kn6, kc6⟩, ⟨va6, vn6, vc6⟩, ⟨ta6, tn6, tc6⟩, e5⟩ := hF 5 (hd 5 (by decide))
      have e6 : vs 6 = vs 5 := hF 6 (hd 6 (by decide))
      refine ⟨rv r1 r2, Or.inl ⟨by kernel_rfl, ?_⟩, ⟨_, _, _, e5, rfl⟩, fun _ _ => flX_no (by decide) (by decide)⟩
      intro w hE
      simp only [flDeps, Par.putAll_nil, Par.putAll_some, flSlots]
      simp only [e6, e5]
      go_simp
    · refine ⟨_, rfl, fun done vs w5 hn hS5 hR5 hd hF => ?_⟩
      obtain ⟨⟨ka6, kn6, kc6⟩, ⟨va6, vn6, vc6⟩, ⟨ta6, tn6, tc6⟩, e5⟩ := hF 5 (hd 5 (by decide))
      have e6 : vs 6 = vs 5 := hF 6 (hd 6 (by decide))
      refine ⟨.int .i64 0, Or.inl ⟨by kernel_rfl, ?_⟩, ⟨_, _, _, e5, rfl⟩, fun _ _ => flX_no (by decide) (by decide)⟩
      intro w hE
      simp only [flDeps, Par.putAll_nil, Par.putAll_some, flSlots]
      simp only [e6, e5]
      go_simp
  · refine List.forall_mem_cons.2 ⟨?_, List.forall_mem_cons.2 ⟨?_, List.forall_mem_cons.2 ⟨?_, List.forall_mem_cons.2 ⟨?_, List.forall_mem_cons.2 ⟨?_, List.forall_mem_cons.2 ⟨?_, List.forall_mem_cons.2 ⟨?_, List.forall_mem_cons.2 ⟨?_, List.forall_mem_cons.2 ⟨?_, fun _ h => by cases h⟩⟩⟩⟩⟩⟩⟩⟩⟩
    · intro _ done vs w5 hn hS5 hR5 hd hF
      simp only [flDeps, Par.putAll_nil]
      refine Par.step_of rfl (fun K hK => ?_)
      go_simp
      refine (rcanon_any a _ HU.out.1.1 HU.out.1.2).mono ?_
      rintro e w6 ⟨rfl, rfl⟩
      exact hK.out _ _ ⟨.int .u64 (canon a), by kernel_rfl, hS5, Ext.refl _, rfl, fun _ _ => flX_no (by decide) (by decide)⟩
    · exact fun h => absurd (by decide) h
    · intro _ done vs w5 hn hS5 hR5 hd hF
      have e4 : vs 4 = .agg #[.int .i64 10, .int .u64 (canon a), .int .u64 0] := hF 4 (hd 4 (by decide))
      simp only [flDeps, Par.putAll_nil, Par.putAll_some, flSlots]
      simp only [e4]
      refine Par.step_of rfl (fun K hK => ?_)
      go_simp
      refine (HDg.out _ hS5).mono ?_
      rintro e w6 ⟨e6, ⟨ka6, kn6, kc6⟩, ⟨va6, vn6, vc6⟩, ⟨ta6, tn6, tc6⟩, rfl, _, _⟩
      exact hK.out _ _ ⟨.tuple #[sv tr ⟨ka6, kn6, kc6⟩ ⟨va6, vn6, vc6⟩ ⟨ta6, tn6, tc6⟩ tcl, rv r1 r2, .int .i64 0], by kernel_rfl, hS5.trans e6, e6, ⟨⟨ka6, kn6, kc6⟩, ⟨va6, vn6, vc6⟩, ⟨ta6, tn6, tc6⟩, rfl⟩, fun _ _ => flX_no (by decide) (by decide)⟩
    · exact fun h => absurd (by decide) h
    · exact fun h => absurd (by decide) h
    · exact fun h => absurd (by decide) h
    · exact fun h => absurd (by decide) h
    · intro _ done vs w5 hn hS5 hR5 hd hF
      simp only [flDeps, Par.putAll_nil]
      refine Par.step_of rfl (fun K hK => ?_)
      go_simp
      exact hK.out _ _ ⟨.pointer (some ⟨w5.heap.size, 0, none⟩), by kernel_rfl, hS5.alloc _, Ext.new _ _, ⟨w5.heap.size, rfl, hS5.size, Cb.new w5 _ _⟩, fun j hj => flX_box (.inl rfl) (fun e => hn (e ▸ hj)) (hF j hj)⟩
    · intro _ done vs w5 hn hS5 hR5 hd hF
      simp only [flDeps, Par.putAll_nil]
      refine Par.step_of rfl (fun K hK => ?_)
      go_simp
      exact hK.out _ _ ⟨.pointer (some ⟨w5.heap.size, 0, none⟩), by kernel_rfl, hS5.alloc _, Ext.new _ _, ⟨w5.heap.size, rfl, hS5.size, Cb.new w5 _ _⟩, fun j hj => flX_box (.inr rfl) (fun e => hn (e ▸ hj)) (hF j hj)⟩
  intro vs w5 hS5 hR5 hF hXX
  have e3 : vs 3 = .int .u64 (canon a) := hF 3 (by decide)
  have e4 : vs 4 = .agg #[.int .i64 10, .int .u64 (canon a), .int .u64 0] := hF 4 (by decide)
  obtain ⟨⟨ka6, kn6, kc6⟩, ⟨va6, vn6, vc6⟩, ⟨ta6, tn6, tc6⟩, e5⟩ := hF 5 (by decide)
  have e6 : vs 6 = vs 5 := hF 6 (by decide)
  obtain ⟨_, _, _, e, e7⟩ := hF 7 (by decide)
  cases e5.symm.trans e
  obtain ⟨_, _, _, e, e8⟩ := hF 8 (by decide)
  cases e5.symm.trans e
  obtain ⟨_, _, _, e, e9⟩ := hF 9 (by decide)
  cases e5.symm.trans e
  obtain ⟨B8, e10, g10, C10⟩ := hF 10 (by decide)
  obtain ⟨B9, e11, g11, C11⟩ := hF 11 (by decide)
  have x3 := flX_ne (hXX 10 (by decide) 11 (by decide) (by decide)) e10 e11
  simp only [Par.putAll_nil, Par.putAll_some, flSlots]
  simp only [e3, e4, e5, e6, e7, e8, e9, e10, e11]
  clear hF hXX e3 e4 e5 e6 e7 e8 e9 e10 e11 e HDg
  obtain ⟨z0, z1, z2, z3, z4⟩ := C10.five
  have y0 := C10.f 0
  have y1 := C10.f 1
  have y2 := C10.f 2
  have y3 := C10.f 3
  have y4 := C10.f 4
  have hC9 := (((((C11.far (B := B8) (Ne.symm x3) 0 (.int .u64 tr)).far (B := B8) (Ne.symm x3) 1 (.slice ka6 kn6 kc6)).far (B := B8) (Ne.symm x3) 2 (.slice va6 vn6 vc6)).far (B := B8) (Ne.symm x3) 3 (.slice ta6 tn6 tc6)).far (B := B8) (Ne.symm x3) 4 (.bool tcl))
  have hE6 := (((((hS5.setCell g10 (.int .u64 tr) (o := 0)).setCell g10 (.slice ka6 kn6 kc6) (o := 1)).setCell g10 (.slice va6 vn6 vc6) (o := 2)).setCell g10 (.slice ta6 tn6 tc6) (o := 3)).setCell g10 (.bool tcl) (o := 4))
  have HH := Lib.hid (And.intro hC9 hE6)
  clear hC9 hE6 C10 C11 hS5 x3 hR5 hHeld
  refine wpAnyH_ready (rs := [12]) (by kernel_rfl) (by simp) ?_
  refine AllReadyH.cons rfl (fun K hK => ?_) AllReadyH.nil
  go_simp
  refine hK.out _ _ HH.out.2 (fun hHeld => ?_)
  clear hK K z0 z1 z2 z3 z4 y0 y1 y2 y3 y4
  obtain ⟨hC9, hE6⟩ := HH.out
  clear HH hHeld
  generalize ((((w5.setCell ⟨B8, 0, none⟩ (.int .u64 tr)).setCell ⟨B8, 1, none⟩ (.slice ka6 kn6 kc6)).setCell ⟨B8, 2, none⟩ (.slice va6 vn6 vc6)).setCell ⟨B8, 3, none⟩ (.slice ta6 tn6 tc6)).setCell ⟨B8, 4, none⟩ (.bool tcl) = w7 at hC9 hE6 ⊢
  obtain ⟨z0, z1⟩ := hC9.two
  have y0 := hC9.f 0
  have y1 := hC9.f 1
  have kC9 := hC9.rs (.int .i64 r1) (.int .u64 r2)
  have kE6 := ((hE6.setCell g11 (.int .i64 r1) (o := 0)).setCell g11 (.int .u64 r2) (o := 1))
  have HH := Lib.hid (And.intro kC9 kE6)
  clear kC9 kE6 hC9 hE6
  refine wpAnyH_ready (rs := [13]) (by kernel_rfl) (by simp) ?_
  refine AllReadyH.cons rfl (fun K hK => ?_) AllReadyH.nil
  go_simp
  refine hK.out _ _ HH.out.2 (fun hHeld => ?_)
  clear hK K z0 z1 y0 y1
  refine wpAnyH_take (i := 14) (v := .int .i64 0) rfl (by kernel_rfl) (by kernel_rfl) (by kernel_rfl) (fun _ _ _ h => h) (Or.inl ⟨by kernel_rfl, ?_⟩) (by assumption) ?_
  · intro w hE
    go_simp
  refine wpAnyH_done (by kernel_rfl) ?_ _
  go_simp
  obtain ⟨hCr, hE8⟩ := HH.out
  generalize (w7.setCell ⟨B9, 0, none⟩ (.int .i64 r1)).setCell ⟨B9, 1, none⟩ (.int .u64 r2) = w8 at hCr hE8 ⊢
  clear HH hHeld
  obtain ⟨hCt, hSt, hCc, hCs, hE⟩ := HB.out
  have hCt8 := hCt.ext hE8
  have hCc8 := hCc.ext hE8
  have hCs8 := hCs.ext hE8
  have HD := do_all2 4 1 30 ⟨ka2, kn2, kc2⟩ ⟨va2, vn2, vc2⟩ ⟨ta2, tn2, tc2⟩ ⟨tr, tk, tu, tw, tcl⟩ ⟨8, a, b⟩ w8 (hSt.ext hE8) (wc_next HU.out.1 HU.out.2.1)
  rw [do_f HR2.out.2.1 HD2.out.2] at HD
  have HDo := Lib.hid HD
  obtain ⟨c0, c1, c2⟩ := hCc8.three
  obtain ⟨t0, t1, t2, t3, t4⟩ := hCt8.five
  have HB2 := Lib.hid (And.intro hCs8 (And.intro hCr (hE.trans hE8)))
  clear HD hCt hSt hCc hCs hE hCt8 hCc8 hCs8 hCr hE8 HB
  dsimp only [cf, sv, sc, opv] at *
  go_wp2_with (fail)
  refine HDo.out.mono ?_
  rintro e w9 ⟨e9, ⟨ka4, kn4, kc4⟩, ⟨va4, vn4, vc4⟩, ⟨ta4, tn4, tc4⟩, rfl, _, _⟩
  clear HDo c0 c1 c2 t0 t1 t2 t3 t4
  dsimp only [sv, rv] at *
  have hE9 : Ext w8 ((w9.alloc (.cells #[.int .u64 tr, .slice ka4 kn4 kc4, .slice va4 vn4 vc4, .slice ta4 tn4 tc4, .bool tcl] 30)).alloc (.cells #[.int .i64 n1, .int .u64 n2] 51)) := (e9.alloc _).alloc _
  have hCn : Cb ((w9.alloc (.cells #[.int .u64 tr, .slice ka4 kn4 kc4, .slice va4 vn4 vc4, .slice ta4 tn4 tc4, .bool tcl] 30)).alloc (.cells #[.int .i64 n1, .int .u64 n2] 51)) (w9.heap.size + 1) [.int .i64 n1, .int .u64 n2] := by repeat (first | ((with_reducible refine Cb.at _ rfl ?_); (simp; done)) | with_reducible refine Cb.alloc ?_ _)
  obtain ⟨hCs8, hCr, hE8⟩ := HB2.out
  obtain ⟨r0', r1'⟩ := (hCr.ext hE9).two
  obtain ⟨s0, s1, s2, s3, s4⟩ := (hCs8.ext hE9).five
  have HB3 := Lib.hid (And.intro hCn (hE8.trans hE9))
  clear HB2 hCs8 hCr hE8 hE9 e9 hCn
  try dsimp only [sc] at *
  rcases HCS.out with ⟨hr, hl⟩ | ⟨hr, hn⟩
  · cases hr
    have hk30 : kn = 30 := by have := HK.out; omega
    subst hk30
    clear HCS hl
    go_wp2_with (fail)
    go_ret
    exact ⟨rfl, HB3.out.2⟩
  · cases hr
    have HN := Lib.hid hn
    clear HCS hn s0 s1 s2 s3 s4
    go_wp2_with (fail)
    clear r0' r1'
    obtain ⟨hCn, hE9⟩ := HB3.out
    clear HB3
    generalize ((w9.alloc (.cells #[.int .u64 tr, .slice ka4 kn4 kc4, .slice va4 vn4 vc4, .slice ta4 tn4 tc4, .bool tcl] 30)).alloc (.cells #[.int .i64 n1, .int .u64 n2] 51)) = w10 at hCn hE9 ⊢
    generalize w9.heap.size + 1 = Nb at hCn ⊢
    obtain ⟨m0, m1⟩ := hCn.two
    have HE9 := Lib.hid hE9
    clear hCn hE9
    go_cut [113] from 89 to 113 (fun v113 wx => v113 = .bool false ∧ ∃ w11, w11 = wx ∧ Ext w10 w11)
    case first =>
      rcases HN.out with hn | ⟨y, hn, hy, h0, h1⟩
      · cases hn
        clear HN
        refine wp_region_held_drew (S := fun w' => Ext w10 w') (by kernel_rfl) (Ext.drew (Ext.refl w10)) (fun hHeld => ?_)
        refine wpAnyH_take (i := 0) (v := .pointer (some ⟨Nb, 0, none⟩)) rfl (by kernel_rfl) (by kernel_rfl) (by kernel_rfl) (fun _ _ _ h => h) (Or.inl ⟨by kernel_rfl, ?_⟩) (by assumption) ?_
        · intro w hE
          go_simp
        refine wpAnyH_take (i := 1) (v := .int .i64 12) rfl (by kernel_rfl) (by kernel_rfl) (by kernel_rfl) (fun _ _ _ h => h) (Or.inl ⟨by kernel_rfl, ?_⟩) (by assumption) ?_
        · intro w hE
          have q0 := hE.cell m0
          go_simp
        refine wpAnyH_take (i := 2) (v := .bool false) rfl (by kernel_rfl) (by kernel_rfl) (by kernel_rfl) (fun _ _ _ h => h) (Or.inl ⟨by kernel_rfl, ?_⟩) (by assumption) ?_
        · intro w hE
          go_simp
        refine wpAnyH_take (i := 3) (v := .bool false) rfl (by kernel_rfl) (by kernel_rfl) (by kernel_rfl) (fun _ _ _ h => h) (Or.inl ⟨by kernel_rfl, ?_⟩) (by assumption) ?_
        · intro w hE
          go_simp
        refine wpAnyH_take (i := 4) (v := undef) rfl (by kernel_rfl) (by kernel_rfl) (by kernel_rfl) (fun _ _ _ h => h) (Or.inr ⟨by kernel_rfl, rfl⟩) (by assumption) ?_
        refine wpAnyH_take (i := 5) (v := undef) rfl (by kernel_rfl) (by kernel_rfl) (by kernel_rfl) (fun _ _ _ h => h) (Or.inr ⟨by kernel_rfl, rfl⟩) (by assumption) ?_
        refine wpAnyH_take (i := 6) (v := undef) rfl (by kernel_rfl) (by kernel_rfl) (by kernel_rfl) (fun _ _ _ h => h) (Or.inr ⟨by kernel_rfl, rfl⟩) (by assumption) ?_
        refine wpAnyH_take (i := 7) (v := undef) rfl (by kernel_rfl) (by kernel_rfl) (by kernel_rfl) (fun _ _ _ h => h) (Or.inr ⟨by kernel_rfl, rfl⟩) (by assumption) ?_
        refine wpAnyH_take (i := 8) (v := undef) rfl (by kernel_rfl) (by kernel_rfl) (by kernel_rfl) (fun _ _ _ h => h) (Or.inr ⟨by kernel_rfl, rfl⟩) (by assumption) ?_
        refine wpAnyH_take (i := 9) (v := undef) rfl (by kernel_rfl) (by kernel_rfl) (by kernel_rfl) (fun _ _ _ h => h) (Or.inr ⟨by kernel_rfl, rfl⟩) (by assumption) ?_
        refine wpAnyH_take (i := 10) (v := undef) rfl (by kernel_rfl) (by kernel_rfl) (by kernel_rfl) (fun _ _ _ h => h) (Or.inr ⟨by kernel_rfl, rfl⟩) (by assumption) ?_
        refine wpAnyH_take (i := 11) (v := undef) rfl (by kernel_rfl) (by kernel_rfl) (by kernel_rfl) (fun _ _ _ h => h) (Or.inr ⟨by kernel_rfl, rfl⟩) (by assumption) ?_
        refine wpAnyH_take (i := 12) (v := undef) rfl (by kernel_rfl) (by kernel_rfl) (by kernel_rfl) (fun _ _ _ h => h) (Or.inr ⟨by kernel_rfl, rfl⟩) (by assumption) ?_
        refine wpAnyH_take (i := 13) (v := undef) rfl (by kernel_rfl) (by kernel_rfl) (by kernel_rfl) (fun _ _ _ h => h) (Or.inr ⟨by kernel_rfl, rfl⟩) (by assumption) ?_
        refine wpAnyH_take (i := 14) (v := undef) rfl (by kernel_rfl) (by kernel_rfl) (by kernel_rfl) (fun _ _ _ h => h) (Or.inr ⟨by kernel_rfl, rfl⟩) (by assumption) ?_
        refine wpAnyH_take (i := 15) (v := undef) rfl (by kernel_rfl) (by kernel_rfl) (by kernel_rfl) (fun _ _ _ h => h) (Or.inr ⟨by kernel_rfl, rfl⟩) (by assumption) ?_
        refine wpAnyH_take (i := 16) (v := undef) rfl (by kernel_rfl) (by kernel_rfl) (by kernel_rfl) (fun _ _ _ h => h) (Or.inr ⟨by kernel_rfl, rfl⟩) (by assumption) ?_
        refine wpAnyH_take (i := 17) (v := undef) rfl (by kernel_rfl) (by kernel_rfl) (by kernel_rfl) (fun _ _ _ h => h) (Or.inr ⟨by kernel_rfl, rfl⟩) (by assumption) ?_
        refine wpAnyH_take (i := 18) (v := undef) rfl (by kernel_rfl) (by kernel_rfl) (by kernel_rfl) (fun _ _ _ h => h) (Or.inr ⟨by kernel_rfl, rfl⟩) (by assumption) ?_
        refine wpAnyH_take (i := 19) (v := undef) rfl (by kernel_rfl) (by kernel_rfl) (by kernel_rfl) (fun _ _ _ h => h) (Or.inr ⟨by kernel_rfl, rfl⟩) (by assumption) ?_
        refine wpAnyH_take (i := 20) (v := undef) rfl (by kernel_rfl) (by kernel_rfl) (by kernel_rfl) (fun _ _ _ h => h) (Or.inr ⟨by kernel_rfl, rfl⟩) (by assumption) ?_
        refine wpAnyH_take (i := 21) (v := undef) rfl (by kernel_rfl) (by kernel_rfl) (by kernel_rfl) (fun _ _ _ h => h) (Or.inr ⟨by kernel_rfl, rfl⟩) (by assumption) ?_
        refine wpAnyH_take (i := 22) (v := undef) rfl (by kernel_rfl) (by kernel_rfl) (by kernel_rfl) (fun _ _ _ h => h) (Or.inr ⟨by kernel_rfl, rfl⟩) (by assumption) ?_
        refine wpAnyH_take (i := 23) (v := undef) rfl (by kernel_rfl) (by kernel_rfl) (by kernel_rfl) (fun _ _ _ h => h) (Or.inr ⟨by kernel_rfl, rfl⟩) (by assumption) ?_
        refine wpAnyH_take (i := 24) (v := .bool false) rfl (by kernel_rfl) (by kernel_rfl) (by kernel_rfl) (fun _ _ _ h => h) (Or.inl ⟨by kernel_rfl, ?_⟩) (by assumption) ?_
        · intro w hE
          go_simp
        refine wpAnyH_done (by kernel_rfl) ?_ _
        go_simp
        go_wp2_with (fail)
        go_meet
        exact ⟨rfl, _, rfl, by assumption⟩
      · cases hn
        clear HN
        by_cases hb : b = 0
        · cases h0 hb
          subst hb
          clear h0 h1 hy
          refine wp_region_held_drew (S := fun w' => Ext w10 w') (by kernel_rfl) (Ext.drew (Ext.refl w10)) (fun hHeld => ?_)
          refine wpAnyH_take (i := 0) (v := .pointer (some ⟨Nb, 0, none⟩)) rfl (by kernel_rfl) (by kernel_rfl) (by kernel_rfl) (fun _ _ _ h => h) (Or.inl ⟨by kernel_rfl, ?_⟩) (by assumption) ?_
          · intro w hE
            go_simp
          refine wpAnyH_take (i := 1) (v := .int .i64 0) rfl (by kernel_rfl) (by kernel_rfl) (by kernel_rfl) (fun _ _ _ h => h) (Or.inl ⟨by kernel_rfl, ?_⟩) (by assumption) ?_
          · intro w hE
            have q0 := hE.cell m0
            go_simp
          refine wpAnyH_take (i := 2) (v := .bool true) rfl (by kernel_rfl) (by kernel_rfl) (by kernel_rfl) (fun _ _ _ h => h) (Or.inl ⟨by kernel_rfl, ?_⟩) (by assumption) ?_
          · intro w hE
            go_simp
          refine wpAnyH_take (i := 3) (v := .bool true) rfl (by kernel_rfl) (by kernel_rfl) (by kernel_rfl) (fun _ _ _ h => h) (Or.inl ⟨by kernel_rfl, ?_⟩) (by assumption) ?_
          · intro w hE
            go_simp
          refine wpAnyH_take (i := 4) (v := .int .u64 0) rfl (by kernel_rfl) (by kernel_rfl) (by kernel_rfl) (fun _ _ _ h => h) (Or.inl ⟨by kernel_rfl, ?_⟩) (by assumption) ?_
          · intro w hE
            go_simp
          refine wpAnyH_take (i := 5) (v := .bool true) rfl (by kernel_rfl) (by kernel_rfl) (by kernel_rfl) (fun _ _ _ h => h) (Or.inl ⟨by kernel_rfl, ?_⟩) (by assumption) ?_
          · intro w hE
            go_simp
          refine wpAnyH_take (i := 6) (v := .bool true) rfl (by kernel_rfl) (by kernel_rfl) (by kernel_rfl) (fun _ _ _ h => h) (Or.inl ⟨by kernel_rfl, ?_⟩) (by assumption) ?_
          · intro w hE
            go_simp
          refine wpAnyH_take (i := 7) (v := .pointer (some ⟨Nb, 1, none⟩)) rfl (by kernel_rfl) (by kernel_rfl) (by kernel_rfl) (fun _ _ _ h => h) (Or.inl ⟨by kernel_rfl, ?_⟩) (by assumption) ?_
          · intro w hE
            go_simp
          refine wpAnyH_take (i := 8) (v := .int .u64 (canon a)) rfl (by kernel_rfl) (by kernel_rfl) (by kernel_rfl) (fun _ _ _ h => h) (Or.inl ⟨by kernel_rfl, ?_⟩) (by assumption) ?_
          · intro w hE
            have q0 := hE.cell m1
            go_simp
          refine wpAnyH_take (i := 9) (v := .int .u64 a) rfl (by kernel_rfl) (by kernel_rfl) (by kernel_rfl) (fun _ _ _ h => h) (Or.inl ⟨by kernel_rfl, ?_⟩) (by assumption) ?_
          · intro w hE
            go_simp
          refine wpAnyH_ready (rs := [10]) (by kernel_rfl) (by simp) ?_
          refine AllReadyH.cons rfl (fun K hK => ?_) AllReadyH.nil
          go_simp
          refine (rcanon_any a _ HU.out.1.1 HU.out.1.2).mono ?_
          rintro e w6 ⟨rfl, rfl⟩
          refine hK.out _ _ (by assumption) (fun hHeld => ?_)
          clear hK K
          refine wpAnyH_take (i := 11) (v := .bool false) rfl (by kernel_rfl) (by kernel_rfl) (by kernel_rfl) (fun _ _ _ h => h) (Or.inl ⟨by kernel_rfl, ?_⟩) (by assumption) ?_
          · intro w hE
            go_simp
          refine wpAnyH_take (i := 12) (v := .bool false) rfl (by kernel_rfl) (by kernel_rfl) (by kernel_rfl) (fun _ _ _ h => h) (Or.inl ⟨by kernel_rfl, ?_⟩) (by assumption) ?_
          · intro w hE
            go_simp
          refine wpAnyH_take (i := 13) (v := .bool false) rfl (by kernel_rfl) (by kernel_rfl) (by kernel_rfl) (fun _ _ _ h => h) (Or.inl ⟨by kernel_rfl, ?_⟩) (by assumption) ?_
          · intro w hE
            go_simp
          refine wpAnyH_take (i := 14) (v := .int .u64 0) rfl (by kernel_rfl) (by kernel_rfl) (by kernel_rfl) (fun _ _ _ h => h) (Or.inl ⟨by kernel_rfl, ?_⟩) (by assumption) ?_
          · intro w hE
            go_simp
          refine wpAnyH_take (i := 15) (v := .bool false) rfl (by kernel_rfl) (by kernel_rfl) (by kernel_rfl) (fun _ _ _ h => h) (Or.inl ⟨by kernel_rfl, ?_⟩) (by assumption) ?_
          · intro w hE
            go_simp
          refine wpAnyH_take (i := 16) (v := .bool false) rfl (by kernel_rfl) (by kernel_rfl) (by kernel_rfl) (fun _ _ _ h => h) (Or.inl ⟨by kernel_rfl, ?_⟩) (by assumption) ?_
          · intro w hE
            go_simp
          refine wpAnyH_take (i := 17) (v := undef) rfl (by kernel_rfl) (by kernel_rfl) (by kernel_rfl) (fun _ _ _ h => h) (Or.inr ⟨by kernel_rfl, rfl⟩) (by assumption) ?_
          refine wpAnyH_take (i := 18) (v := undef) rfl (by kernel_rfl) (by kernel_rfl) (by kernel_rfl) (fun _ _ _ h => h) (Or.inr ⟨by kernel_rfl, rfl⟩) (by assumption) ?_
          refine wpAnyH_take (i := 19) (v := undef) rfl (by kernel_rfl) (by kernel_rfl) (by kernel_rfl) (fun _ _ _ h => h) (Or.inr ⟨by kernel_rfl, rfl⟩) (by assumption) ?_
          refine wpAnyH_take (i := 20) (v := undef) rfl (by kernel_rfl) (by kernel_rfl) (by kernel_rfl) (fun _ _ _ h => h) (Or.inr ⟨by kernel_rfl, rfl⟩) (by assumption) ?_
          refine wpAnyH_take (i := 21) (v := undef) rfl (by kernel_rfl) (by kernel_rfl) (by kernel_rfl) (fun _ _ _ h => h) (Or.inr ⟨by kernel_rfl, rfl⟩) (by assumption) ?_
          refine wpAnyH_take (i := 22) (v := .bool false) rfl (by kernel_rfl) (by kernel_rfl) (by kernel_rfl) (fun _ _ _ h => h) (Or.inl ⟨by kernel_rfl, ?_⟩) (by assumption) ?_
          · intro w hE
            go_simp
          refine wpAnyH_take (i := 23) (v := .bool false) rfl (by kernel_rfl) (by kernel_rfl) (by kernel_rfl) (fun _ _ _ h => h) (Or.inl ⟨by kernel_rfl, ?_⟩) (by assumption) ?_
          · intro w hE
            go_simp
          refine wpAnyH_take (i := 24) (v := .bool false) rfl (by kernel_rfl) (by kernel_rfl) (by kernel_rfl) (fun _ _ _ h => h) (Or.inl ⟨by kernel_rfl, ?_⟩) (by assumption) ?_
          · intro w hE
            go_simp
          refine wpAnyH_done (by kernel_rfl) ?_ _
          go_simp
          go_wp2_with (fail)
          go_meet
          exact ⟨rfl, _, rfl, by assumption⟩
        · have hls := h1 hb
          have HLs : RowKit.Hid (∀ W, _) := Lib.hid fun W => rless_any a n2 W HU.out.1.1 HU.out.1.2 hy.1 hy.2
          rw [hls] at HLs
          have hb1 : (b == 0) = false := by simpa using hb
          have hb2 : (b != 0) = true := by simpa using hb
          clear h0 h1 hy hls hb
          refine wp_region_held_drew (S := fun w' => Ext w10 w') (by kernel_rfl) (Ext.drew (Ext.refl w10)) (fun hHeld => ?_)
          refine wpAnyH_take (i := 0) (v := .pointer (some ⟨Nb, 0, none⟩)) rfl (by kernel_rfl) (by kernel_rfl) (by kernel_rfl) (fun _ _ _ h => h) (Or.inl ⟨by kernel_rfl, ?_⟩) (by assumption) ?_
          · intro w hE
            go_simp
          refine wpAnyH_take (i := 1) (v := .int .i64 0) rfl (by kernel_rfl) (by kernel_rfl) (by kernel_rfl) (fun _ _ _ h => h) (Or.inl ⟨by kernel_rfl, ?_⟩) (by assumption) ?_
          · intro w hE
            have q0 := hE.cell m0
            go_simp
          refine wpAnyH_take (i := 2) (v := .bool true) rfl (by kernel_rfl) (by kernel_rfl) (by kernel_rfl) (fun _ _ _ h => h) (Or.inl ⟨by kernel_rfl, ?_⟩) (by assumption) ?_
          · intro w hE
            go_simp
          refine wpAnyH_take (i := 3) (v := .bool true) rfl (by kernel_rfl) (by kernel_rfl) (by kernel_rfl) (fun _ _ _ h => h) (Or.inl ⟨by kernel_rfl, ?_⟩) (by assumption) ?_
          · intro w hE
            go_simp
          refine wpAnyH_take (i := 4) (v := .int .u64 b) rfl (by kernel_rfl) (by kernel_rfl) (by kernel_rfl) (fun _ _ _ h => h) (Or.inl ⟨by kernel_rfl, ?_⟩) (by assumption) ?_
          · intro w hE
            go_simp
          refine wpAnyH_take (i := 5) (v := .bool false) rfl (by kernel_rfl) (by kernel_rfl) (by kernel_rfl) (fun _ _ _ h => h) (Or.inl ⟨by kernel_rfl, ?_⟩) (by assumption) ?_
          · intro w hE
            go_simp
          refine wpAnyH_take (i := 6) (v := .bool false) rfl (by kernel_rfl) (by kernel_rfl) (by kernel_rfl) (fun _ _ _ h => h) (Or.inl ⟨by kernel_rfl, ?_⟩) (by assumption) ?_
          · intro w hE
            go_simp
          refine wpAnyH_take (i := 7) (v := undef) rfl (by kernel_rfl) (by kernel_rfl) (by kernel_rfl) (fun _ _ _ h => h) (Or.inr ⟨by kernel_rfl, rfl⟩) (by assumption) ?_
          refine wpAnyH_take (i := 8) (v := undef) rfl (by kernel_rfl) (by kernel_rfl) (by kernel_rfl) (fun _ _ _ h => h) (Or.inr ⟨by kernel_rfl, rfl⟩) (by assumption) ?_
          refine wpAnyH_take (i := 9) (v := undef) rfl (by kernel_rfl) (by kernel_rfl) (by kernel_rfl) (fun _ _ _ h => h) (Or.inr ⟨by kernel_rfl, rfl⟩) (by assumption) ?_
          refine wpAnyH_take (i := 10) (v := undef) rfl (by kernel_rfl) (by kernel_rfl) (by kernel_rfl) (fun _ _ _ h => h) (Or.inr ⟨by kernel_rfl, rfl⟩) (by assumption) ?_
          refine wpAnyH_take (i := 11) (v := undef) rfl (by kernel_rfl) (by kernel_rfl) (by kernel_rfl) (fun _ _ _ h => h) (Or.inr ⟨by kernel_rfl, rfl⟩) (by assumption) ?_
          refine wpAnyH_take (i := 12) (v := .bool false) rfl (by kernel_rfl) (by kernel_rfl) (by kernel_rfl) (fun _ _ _ h => h) (Or.inl ⟨by kernel_rfl, ?_⟩) (by assumption) ?_
          · intro w hE
            go_simp
          refine wpAnyH_take (i := 13) (v := .bool false) rfl (by kernel_rfl) (by kernel_rfl) (by kernel_rfl) (fun _ _ _ h => h) (Or.inl ⟨by kernel_rfl, ?_⟩) (by assumption) ?_
          · intro w hE
            go_simp
          refine wpAnyH_take (i := 14) (v := .int .u64 b) rfl (by kernel_rfl) (by kernel_rfl) (by kernel_rfl) (fun _ _ _ h => h) (Or.inl ⟨by kernel_rfl, ?_⟩) (by assumption) ?_
          · intro w hE
            go_simp
          refine wpAnyH_take (i := 15) (v := .bool true) rfl (by kernel_rfl) (by kernel_rfl) (by kernel_rfl) (fun _ _ _ h => h) (Or.inl ⟨by kernel_rfl, ?_⟩) (by assumption) ?_
          · intro w hE
            go_simp
          refine wpAnyH_take (i := 16) (v := .bool true) rfl (by kernel_rfl) (by kernel_rfl) (by kernel_rfl) (fun _ _ _ h => h) (Or.inl ⟨by kernel_rfl, ?_⟩) (by assumption) ?_
          · intro w hE
            go_simp
          refine wpAnyH_take (i := 17) (v := .int .u64 a) rfl (by kernel_rfl) (by kernel_rfl) (by kernel_rfl) (fun _ _ _ h => h) (Or.inl ⟨by kernel_rfl, ?_⟩) (by assumption) ?_
          · intro w hE
            go_simp
          refine wpAnyH_take (i := 18) (v := .pointer (some ⟨Nb, 1, none⟩)) rfl (by kernel_rfl) (by kernel_rfl) (by kernel_rfl) (fun _ _ _ h => h) (Or.inl ⟨by kernel_rfl, ?_⟩) (by assumption) ?_
          · intro w hE
            go_simp
          refine wpAnyH_take (i := 19) (v := .int .u64 n2) rfl (by kernel_rfl) (by kernel_rfl) (by kernel_rfl) (fun _ _ _ h => h) (Or.inl ⟨by kernel_rfl, ?_⟩) (by assumption) ?_
          · intro w hE
            have q0 := hE.cell m1
            go_simp
          refine wpAnyH_ready (rs := [20]) (by kernel_rfl) (by simp) ?_
          refine AllReadyH.cons rfl (fun K hK => ?_) AllReadyH.nil
          go_simp
          refine (HLs.out _).mono ?_
          rintro e w6 ⟨rfl, rfl⟩
          refine hK.out _ _ (by assumption) (fun hHeld => ?_)
          clear hK K
          refine wpAnyH_take (i := 21) (v := .bool false) rfl (by kernel_rfl) (by kernel_rfl) (by kernel_rfl) (fun _ _ _ h => h) (Or.inl ⟨by kernel_rfl, ?_⟩) (by assumption) ?_
          · intro w hE
            go_simp
          refine wpAnyH_take (i := 22) (v := .bool false) rfl (by kernel_rfl) (by kernel_rfl) (by kernel_rfl) (fun _ _ _ h => h) (Or.inl ⟨by kernel_rfl, ?_⟩) (by assumption) ?_
          · intro w hE
            go_simp
          refine wpAnyH_take (i := 23) (v := .bool false) rfl (by kernel_rfl) (by kernel_rfl) (by kernel_rfl) (fun _ _ _ h => h) (Or.inl ⟨by kernel_rfl, ?_⟩) (by assumption) ?_
          · intro w hE
            go_simp
          refine wpAnyH_take (i := 24) (v := .bool false) rfl (by kernel_rfl) (by kernel_rfl) (by kernel_rfl) (fun _ _ _ h => h) (Or.inl ⟨by kernel_rfl, ?_⟩) (by assumption) ?_
          · intro w hE
            go_simp
          refine wpAnyH_done (by kernel_rfl) ?_ _
          go_simp
          go_wp2_with (fail)
          go_meet
          exact ⟨rfl, _, rfl, by assumption⟩
    case rest =>
      obtain ⟨rfl, w11, rfl, e11⟩ := hcut
      clear HN m0 m1
      have HE11 := Lib.hid (HE9.out.trans e11)
      obtain ⟨hf1, hf2, hf3⟩ := floats_reg HU.out.1 HU.out.2.1
      have hCd : Cb (w11.alloc (.cells #[.int .i64 1, .int .i64 1, .int .i64 1] 24)) w11.heap.size [.int .i64 1, .int .i64 1, .int .i64 1] := Cb.new w11 _ _
      obtain ⟨c0, c1, c2⟩ := hCd.three
      have HD := do_all2 1 1 1 nilSl nilSl nilSl zeroS ⟨2, 0, a⟩ (w11.alloc (.cells #[.int .i64 1, .int .i64 1, .int .i64 1] 24)) (ss_zero _) (wc_val (by decide) HU.out.1)
      rw [do_f (s := zeroS) (show rightS 1 1 1 zeroS = true from reg_right (by decide)) hf1] at HD
      have HDo := Lib.hid HD
      have HCd := Lib.hid hCd
      have HF2 := Lib.hid hf2
      have HF3 := Lib.hid hf3
      clear HD hCd hf1 hf2 hf3 HE9 e11
      dsimp only [cf, sv, sc, opv, zeroS, nilSl] at *
      go_wp2_with (fail)
      refine HDo.out.mono ?_
      rintro e w12 ⟨e12, ⟨ka5, kn5, kc5⟩, ⟨va5, vn5, vc5⟩, ⟨ta5, tn5, tc5⟩, rfl, S12, _⟩
      clear HDo c0 c1 c2
      dsimp only [sv, rv] at *
      have hE12 : Ext (w11.alloc (.cells #[.int .i64 1, .int .i64 1, .int .i64 1] 24)) ((w12.alloc (.cells #[.int .u64 (canon a), .slice ka5 kn5 kc5, .slice va5 vn5 vc5, .slice ta5 tn5 tc5, .bool false] 30)).alloc (.cells #[.int .i64 0, .int .u64 0] 51)) := (e12.alloc _).alloc _
      have hCu : Cb ((w12.alloc (.cells #[.int .u64 (canon a), .slice ka5 kn5 kc5, .slice va5 vn5 vc5, .slice ta5 tn5 tc5, .bool false] 30)).alloc (.cells #[.int .i64 0, .int .u64 0] 51)) w12.heap.size (sc (canon a) ⟨ka5, kn5, kc5⟩ ⟨va5, vn5, vc5⟩ ⟨ta5, tn5, tc5⟩ false) := by repeat (first | ((with_reducible refine Cb.at _ rfl ?_); (simp; done)) | with_reducible refine Cb.alloc ?_ _)
      have hSu := S12.ext ((Ext.new w12 (.cells #[.int .u64 (canon a), .slice ka5 kn5 kc5, .slice va5 vn5 vc5, .slice ta5 tn5 tc5, .bool false] 30)).alloc (.cells #[.int .i64 0, .int .u64 0] 51))
      have HD := do_all2 1 1 1 ⟨ka5, kn5, kc5⟩ ⟨va5, vn5, vc5⟩ ⟨ta5, tn5, tc5⟩ ⟨canon a, [], [], [], false⟩ ⟨4, 0, b⟩ _ hSu (wc_val (by decide) HU.out.2.1)
      rw [do_f (reg_right (canon_canon a)) HF2.out] at HD
      have HDo := Lib.hid HD
      have hCd := HCd.out.ext hE12
      obtain ⟨c0, c1, c2⟩ := hCd.three
      obtain ⟨u0, u1, u2, u3, u4⟩ := hCu.five
      have HB := Lib.hid (And.intro hCu (And.intro hSu (And.intro hCd ((HE11.out.alloc _).trans hE12))))
      clear HD hCu hSu hCd hE12 e12 S12 HCd HE11 HF2
      dsimp only [cf, sv, sc, opv] at *
      go_wp2_with (fail)
      refine HDo.out.mono ?_
      rintro e w13 ⟨e13, ⟨ka7, kn7, kc7⟩, ⟨va7, vn7, vc7⟩, ⟨ta7, tn7, tc7⟩, rfl, _, _⟩
      clear HDo c0 c1 c2 u0 u1 u2 u3 u4
      dsimp only [sv, rv] at *
      have hE13 : Ext ((w12.alloc (.cells #[.int .u64 (canon a), .slice ka5 kn5 kc5, .slice va5 vn5 vc5, .slice ta5 tn5 tc5, .bool false] 30)).alloc (.cells #[.int .i64 0, .int .u64 0] 51)) ((w13.alloc (.cells #[.int .u64 (sumOf a b), .slice ka7 kn7 kc7, .slice va7 vn7 vc7, .slice ta7 tn7 tc7, .bool false] 30)).alloc (.cells #[.int .i64 0, .int .u64 (sumOf a b)] 51)) := (e13.alloc _).alloc _
      have hCv : Cb ((w13.alloc (.cells #[.int .u64 (sumOf a b), .slice ka7 kn7 kc7, .slice va7 vn7 vc7, .slice ta7 tn7 tc7, .bool false] 30)).alloc (.cells #[.int .i64 0, .int .u64 (sumOf a b)] 51)) w13.heap.size (sc (sumOf a b) ⟨ka7, kn7, kc7⟩ ⟨va7, vn7, vc7⟩ ⟨ta7, tn7, tc7⟩ false) := by repeat (first | ((with_reducible refine Cb.at _ rfl ?_); (simp; done)) | with_reducible refine Cb.alloc ?_ _)
      have hCq : Cb ((w13.alloc (.cells #[.int .u64 (sumOf a b), .slice ka7 kn7 kc7, .slice va7 vn7 vc7, .slice ta7 tn7 tc7, .bool false] 30)).alloc (.cells #[.int .i64 0, .int .u64 (sumOf a b)] 51)) (w13.heap.size + 1) [.int .i64 0, .int .u64 (sumOf a b)] := by repeat (first | ((with_reducible refine Cb.at _ rfl ?_); (simp; done)) | with_reducible refine Cb.alloc ?_ _)
      obtain ⟨hCu, hSu, hCd, hE⟩ := HB.out
      have hCu3 := hCu.ext hE13
      have hCd3 := hCd.ext hE13
      have HD := do_all2 1 1 1 ⟨ka5, kn5, kc5⟩ ⟨va5, vn5, vc5⟩ ⟨ta5, tn5, tc5⟩ ⟨canon a, [], [], [], false⟩ ⟨3, 0, b⟩ _ (hSu.ext hE13) (wc_val (by decide) HU.out.2.1)
      rw [do_f (reg_right (canon_canon a)) HF3.out] at HD
      have HDo := Lib.hid HD
      obtain ⟨c0, c1, c2⟩ := hCd3.three
      obtain ⟨u0, u1, u2, u3, u4⟩ := hCu3.five
      have HB2 := Lib.hid (And.intro hCu3 (And.intro hCv (And.intro hCq (hE.trans hE13))))
      clear HD hCu hSu hCd hE hCu3 hCd3 hCv hCq hE13 e13 HB HF3
      dsimp only [cf, sv, sc, opv] at *
      go_wp2_with (fail)
      refine HDo.out.mono ?_
      rintro e w14 ⟨e14, ⟨ka8, kn8, kc8⟩, ⟨va8, vn8, vc8⟩, ⟨ta8, tn8, tc8⟩, rfl, _, _⟩
      clear HDo c0 c1 c2 u0 u1 u2 u3 u4
      dsimp only [sv, rv] at *
      have hE14 : Ext ((w13.alloc (.cells #[.int .u64 (sumOf a b), .slice ka7 kn7 kc7, .slice va7 vn7 vc7, .slice ta7 tn7 tc7, .bool false] 30)).alloc (.cells #[.int .i64 0, .int .u64 (sumOf a b)] 51)) ((w14.alloc (.cells #[.int .u64 (maxOf a b), .slice ka8 kn8 kc8, .slice va8 vn8 vc8, .slice ta8 tn8 tc8, .bool false] 30)).alloc (.cells #[.int .i64 0, .int .u64 (maxOf a b)] 51)) := (e14.alloc _).alloc _
      have hCm : Cb ((w14.alloc (.cells #[.int .u64 (maxOf a b), .slice ka8 kn8 kc8, .slice va8 vn8 vc8, .slice ta8 tn8 tc8, .bool false] 30)).alloc (.cells #[.int .i64 0, .int .u64 (maxOf a b)] 51)) w14.heap.size (sc (maxOf a b) ⟨ka8, kn8, kc8⟩ ⟨va8, vn8, vc8⟩ ⟨ta8, tn8, tc8⟩ false) := by repeat (first | ((with_reducible refine Cb.at _ rfl ?_); (simp; done)) | with_reducible refine Cb.alloc ?_ _)
      have hCp : Cb ((w14.alloc (.cells #[.int .u64 (maxOf a b), .slice ka8 kn8 kc8, .slice va8 vn8 vc8, .slice ta8 tn8 tc8, .bool false] 30)).alloc (.cells #[.int .i64 0, .int .u64 (maxOf a b)] 51)) (w14.heap.size + 1) [.int .i64 0, .int .u64 (maxOf a b)] := by repeat (first | ((with_reducible refine Cb.at _ rfl ?_); (simp; done)) | with_reducible refine Cb.alloc ?_ _)
      obtain ⟨hCu, hCv, hCq, hE⟩ := HB2.out
      have hCu4 := hCu.ext hE14
      have hCv4 := hCv.ext hE14
      have hCq4 := hCq.ext hE14
      have hE4 := hE.trans hE14
      clear hCu hCv hCq hE hE14 e14 HB2
      go_wp2_with (fail)
      generalize ((w14.alloc (.cells #[.int .u64 (maxOf a b), .slice ka8 kn8 kc8, .slice va8 vn8 vc8, .slice ta8 tn8 tc8, .bool false] 30)).alloc (.cells #[.int .i64 0, .int .u64 (maxOf a b)] 51)) = w15 at hCu4 hCv4 hCq4 hE4 hCm hCp ⊢
      generalize w14.heap.size + 1 = Pb at hCp ⊢
      generalize w14.heap.size = Mb at hCm ⊢
      generalize w13.heap.size + 1 = Qb at hCq4 ⊢
      generalize w13.heap.size = Vb at hCv4 ⊢
      generalize w12.heap.size = Ub at hCu4 ⊢
      obtain ⟨u0, _⟩ := hCu4.five
      obtain ⟨v0, _⟩ := hCv4.five
      obtain ⟨q0, q1'⟩ := hCq4.two
      obtain ⟨m0, _⟩ := hCm.five
      obtain ⟨p0, p1⟩ := hCp.two
      have HE := Lib.hid hE4
      clear hCu4 hCv4 hCq4 hCm hCp hE4
      try dsimp only [sc] at *
      refine wp_region_held_drew (S := fun w' => Ext w15 w') (by kernel_rfl) (Ext.drew (Ext.refl w15)) (fun hHeld => ?_)
      refine wpAnyH_take (i := 0) (v := .bool true) rfl (by kernel_rfl) (by kernel_rfl) (by kernel_rfl) (fun _ _ _ h => h) (Or.inl ⟨by kernel_rfl, ?_⟩) (by assumption) ?_
      · intro w hE
        go_simp
      refine wpAnyH_take (i := 1) (v := .bool true) rfl (by kernel_rfl) (by kernel_rfl) (by kernel_rfl) (fun _ _ _ h => h) (Or.inl ⟨by kernel_rfl, ?_⟩) (by assumption) ?_
      · intro w hE
        go_simp
      refine wpAnyH_take (i := 2) (v := .int .i64 0) rfl (by kernel_rfl) (by kernel_rfl) (by kernel_rfl) (fun _ _ _ h => h) (Or.inl ⟨by kernel_rfl, ?_⟩) (by assumption) ?_
      · intro w hE
        go_simp
      refine wpAnyH_take (i := 3) (v := .bool true) rfl (by kernel_rfl) (by kernel_rfl) (by kernel_rfl) (fun _ _ _ h => h) (Or.inl ⟨by kernel_rfl, ?_⟩) (by assumption) ?_
      · intro w hE
        go_simp
      refine wpAnyH_take (i := 4) (v := .bool true) rfl (by kernel_rfl) (by kernel_rfl) (by kernel_rfl) (fun _ _ _ h => h) (Or.inl ⟨by kernel_rfl, ?_⟩) (by assumption) ?_
      · intro w hE
        go_simp
      refine wpAnyH_take (i := 5) (v := .bool true) rfl (by kernel_rfl) (by kernel_rfl) (by kernel_rfl) (fun _ _ _ h => h) (Or.inl ⟨by kernel_rfl, ?_⟩) (by assumption) ?_
      · intro w hE
        go_simp
      refine wpAnyH_take (i := 6) (v := .int .i64 0) rfl (by kernel_rfl) (by kernel_rfl) (by kernel_rfl) (fun _ _ _ h => h) (Or.inl ⟨by kernel_rfl, ?_⟩) (by assumption) ?_
      · intro w hE
        go_simp
      refine wpAnyH_take (i := 7) (v := .bool true) rfl (by kernel_rfl) (by kernel_rfl) (by kernel_rfl) (fun _ _ _ h => h) (Or.inl ⟨by kernel_rfl, ?_⟩) (by assumption) ?_
      · intro w hE
        go_simp
      refine wpAnyH_take (i := 8) (v := .bool true) rfl (by kernel_rfl) (by kernel_rfl) (by kernel_rfl) (fun _ _ _ h => h) (Or.inl ⟨by kernel_rfl, ?_⟩) (by assumption) ?_
      · intro w hE
        go_simp
      refine wpAnyH_take (i := 9) (v := .bool true) rfl (by kernel_rfl) (by kernel_rfl) (by kernel_rfl) (fun _ _ _ h => h) (Or.inl ⟨by kernel_rfl, ?_⟩) (by assumption) ?_
      · intro w hE
        go_simp
      refine wpAnyH_take (i := 10) (v := .int .i64 0) rfl (by kernel_rfl) (by kernel_rfl) (by kernel_rfl) (fun _ _ _ h => h) (Or.inl ⟨by kernel_rfl, ?_⟩) (by assumption) ?_
      · intro w hE
        go_simp
      refine wpAnyH_take (i := 11) (v := .bool true) rfl (by kernel_rfl) (by kernel_rfl) (by kernel_rfl) (fun _ _ _ h => h) (Or.inl ⟨by kernel_rfl, ?_⟩) (by assumption) ?_
      · intro w hE
        go_simp
      refine wpAnyH_take (i := 12) (v := .bool true) rfl (by kernel_rfl) (by kernel_rfl) (by kernel_rfl) (fun _ _ _ h => h) (Or.inl ⟨by kernel_rfl, ?_⟩) (by assumption) ?_
      · intro w hE
        go_simp
      refine wpAnyH_take (i := 13) (v := .bool true) rfl (by kernel_rfl) (by kernel_rfl) (by kernel_rfl) (fun _ _ _ h => h) (Or.inl ⟨by kernel_rfl, ?_⟩) (by assumption) ?_
      · intro w hE
        go_simp
      refine wpAnyH_take (i := 14) (v := .pointer (some ⟨Ub, 0, none⟩)) rfl (by kernel_rfl) (by kernel_rfl) (by kernel_rfl) (fun _ _ _ h => h) (Or.inl ⟨by kernel_rfl, ?_⟩) (by assumption) ?_
      · intro w hE
        go_simp
      refine wpAnyH_take (i := 15) (v := .int .u64 (canon a)) rfl (by kernel_rfl) (by kernel_rfl) (by kernel_rfl) (fun _ _ _ h => h) (Or.inl ⟨by kernel_rfl, ?_⟩) (by assumption) ?_
      · intro w hE
        have q0 := hE.cell u0
        go_simp
      refine wpAnyH_take (i := 16) (v := .int .u64 a) rfl (by kernel_rfl) (by kernel_rfl) (by kernel_rfl) (fun _ _ _ h => h) (Or.inl ⟨by kernel_rfl, ?_⟩) (by assumption) ?_
      · intro w hE
        go_simp
      refine wpAnyH_ready (rs := [17]) (by kernel_rfl) (by simp) ?_
      refine AllReadyH.cons rfl (fun K hK => ?_) AllReadyH.nil
      go_simp
      refine (rcanon_any a _ HU.out.1.1 HU.out.1.2).mono ?_
      rintro e w16 ⟨rfl, rfl⟩
      refine hK.out _ _ (by assumption) (fun hHeld => ?_)
      clear hK K
      refine wpAnyH_take (i := 18) (v := .bool true) rfl (by kernel_rfl) (by kernel_rfl) (by kernel_rfl) (fun _ _ _ h => h) (Or.inl ⟨by kernel_rfl, ?_⟩) (by assumption) ?_
      · intro w hE
        go_simp
      refine wpAnyH_take (i := 19) (v := .bool true) rfl (by kernel_rfl) (by kernel_rfl) (by kernel_rfl) (fun _ _ _ h => h) (Or.inl ⟨by kernel_rfl, ?_⟩) (by assumption) ?_
      · intro w hE
        go_simp
      refine wpAnyH_take (i := 20) (v := .bool true) rfl (by kernel_rfl) (by kernel_rfl) (by kernel_rfl) (fun _ _ _ h => h) (Or.inl ⟨by kernel_rfl, ?_⟩) (by assumption) ?_
      · intro w hE
        go_simp
      refine wpAnyH_take (i := 21) (v := .pointer (some ⟨Vb, 0, none⟩)) rfl (by kernel_rfl) (by kernel_rfl) (by kernel_rfl) (fun _ _ _ h => h) (Or.inl ⟨by kernel_rfl, ?_⟩) (by assumption) ?_
      · intro w hE
        go_simp
      refine wpAnyH_take (i := 22) (v := .int .u64 (sumOf a b)) rfl (by kernel_rfl) (by kernel_rfl) (by kernel_rfl) (fun _ _ _ h => h) (Or.inl ⟨by kernel_rfl, ?_⟩) (by assumption) ?_
      · intro w hE
        have q0 := hE.cell v0
        go_simp
      refine wpAnyH_take (i := 23) (v := .int .u64 a) rfl (by kernel_rfl) (by kernel_rfl) (by kernel_rfl) (fun _ _ _ h => h) (Or.inl ⟨by kernel_rfl, ?_⟩) (by assumption) ?_
      · intro w hE
        go_simp
      refine wpAnyH_take (i := 24) (v := .int .u64 b) rfl (by kernel_rfl) (by kernel_rfl) (by kernel_rfl) (fun _ _ _ h => h) (Or.inl ⟨by kernel_rfl, ?_⟩) (by assumption) ?_
      · intro w hE
        go_simp
      refine wpAnyH_ready (rs := [25]) (by kernel_rfl) (by simp) ?_
      refine AllReadyH.cons rfl (fun K hK => ?_) AllReadyH.nil
      go_simp
      refine (rsum_any a b _ HU.out.1.1 HU.out.1.2 HU.out.2.1.1 HU.out.2.1.2).mono ?_
      rintro e w16 ⟨rfl, rfl⟩
      refine hK.out _ _ (by assumption) (fun hHeld => ?_)
      clear hK K
      refine wpAnyH_take (i := 26) (v := .bool true) rfl (by kernel_rfl) (by kernel_rfl) (by kernel_rfl) (fun _ _ _ h => h) (Or.inl ⟨by kernel_rfl, ?_⟩) (by assumption) ?_
      · intro w hE
        go_simp
      refine wpAnyH_take (i := 27) (v := .bool true) rfl (by kernel_rfl) (by kernel_rfl) (by kernel_rfl) (fun _ _ _ h => h) (Or.inl ⟨by kernel_rfl, ?_⟩) (by assumption) ?_
      · intro w hE
        go_simp
      refine wpAnyH_take (i := 28) (v := .bool true) rfl (by kernel_rfl) (by kernel_rfl) (by kernel_rfl) (fun _ _ _ h => h) (Or.inl ⟨by kernel_rfl, ?_⟩) (by assumption) ?_
      · intro w hE
        go_simp
      refine wpAnyH_take (i := 29) (v := .agg #[.int .i64 0, .int .u64 (sumOf a b)]) rfl (by kernel_rfl) (by kernel_rfl) (by kernel_rfl) (fun _ _ _ h => h) (Or.inl ⟨by kernel_rfl, ?_⟩) (by assumption) ?_
      · intro w hE
        have q0 := hE.cell q0
        have q1 := hE.cell q1'
        go_simp
      refine wpAnyH_take (i := 30) (v := .pointer (some ⟨Vb, 0, none⟩)) rfl (by kernel_rfl) (by kernel_rfl) (by kernel_rfl) (fun _ _ _ h => h) (Or.inl ⟨by kernel_rfl, ?_⟩) (by assumption) ?_
      · intro w hE
        go_simp
      refine wpAnyH_take (i := 31) (v := .int .u64 (sumOf a b)) rfl (by kernel_rfl) (by kernel_rfl) (by kernel_rfl) (fun _ _ _ h => h) (Or.inl ⟨by kernel_rfl, ?_⟩) (by assumption) ?_
      · intro w hE
        have q0 := hE.cell v0
        go_simp
      refine wpAnyH_take (i := 32) (v := .agg #[.int .i64 0, .int .u64 (sumOf a b)]) rfl (by kernel_rfl) (by kernel_rfl) (by kernel_rfl) (fun _ _ _ h => h) (Or.inl ⟨by kernel_rfl, ?_⟩) (by assumption) ?_
      · intro w hE
        go_simp
      refine wpAnyH_take (i := 33) (v := .bool true) rfl (by kernel_rfl) (by kernel_rfl) (by kernel_rfl) (fun _ _ _ h => h) (Or.inl ⟨by kernel_rfl, ?_⟩) (by assumption) ?_
      · intro w hE
        go_simp
      refine wpAnyH_take (i := 34) (v := .bool true) rfl (by kernel_rfl) (by kernel_rfl) (by kernel_rfl) (fun _ _ _ h => h) (Or.inl ⟨by kernel_rfl, ?_⟩) (by assumption) ?_
      · intro w hE
        go_simp
      refine wpAnyH_take (i := 35) (v := .bool true) rfl (by kernel_rfl) (by kernel_rfl) (by kernel_rfl) (fun _ _ _ h => h) (Or.inl ⟨by kernel_rfl, ?_⟩) (by assumption) ?_
      · intro w hE
        go_simp
      refine wpAnyH_take (i := 36) (v := .pointer (some ⟨Mb, 0, none⟩)) rfl (by kernel_rfl) (by kernel_rfl) (by kernel_rfl) (fun _ _ _ h => h) (Or.inl ⟨by kernel_rfl, ?_⟩) (by assumption) ?_
      · intro w hE
        go_simp
      refine wpAnyH_take (i := 37) (v := .int .u64 (maxOf a b)) rfl (by kernel_rfl) (by kernel_rfl) (by kernel_rfl) (fun _ _ _ h => h) (Or.inl ⟨by kernel_rfl, ?_⟩) (by assumption) ?_
      · intro w hE
        have q0 := hE.cell m0
        go_simp
      refine wpAnyH_take (i := 38) (v := .int .u64 a) rfl (by kernel_rfl) (by kernel_rfl) (by kernel_rfl) (fun _ _ _ h => h) (Or.inl ⟨by kernel_rfl, ?_⟩) (by assumption) ?_
      · intro w hE
        go_simp
      refine wpAnyH_take (i := 39) (v := .int .u64 b) rfl (by kernel_rfl) (by kernel_rfl) (by kernel_rfl) (fun _ _ _ h => h) (Or.inl ⟨by kernel_rfl, ?_⟩) (by assumption) ?_
      · intro w hE
        go_simp
      refine wpAnyH_ready (rs := [40]) (by kernel_rfl) (by simp) ?_
      refine AllReadyH.cons rfl (fun K hK => ?_) AllReadyH.nil
      go_simp
      refine (rmax_any a b _ HU.out.1.1 HU.out.1.2 HU.out.2.1.1 HU.out.2.1.2).mono ?_
      rintro e w16 ⟨rfl, rfl⟩
      refine hK.out _ _ (by assumption) (fun hHeld => ?_)
      clear hK K
      refine wpAnyH_take (i := 41) (v := .bool true) rfl (by kernel_rfl) (by kernel_rfl) (by kernel_rfl) (fun _ _ _ h => h) (Or.inl ⟨by kernel_rfl, ?_⟩) (by assumption) ?_
      · intro w hE
        go_simp
      refine wpAnyH_take (i := 42) (v := .bool true) rfl (by kernel_rfl) (by kernel_rfl) (by kernel_rfl) (fun _ _ _ h => h) (Or.inl ⟨by kernel_rfl, ?_⟩) (by assumption) ?_
      · intro w hE
        go_simp
      refine wpAnyH_take (i := 43) (v := .bool true) rfl (by kernel_rfl) (by kernel_rfl) (by kernel_rfl) (fun _ _ _ h => h) (Or.inl ⟨by kernel_rfl, ?_⟩) (by assumption) ?_
      · intro w hE
        go_simp
      refine wpAnyH_take (i := 44) (v := .agg #[.int .i64 0, .int .u64 (maxOf a b)]) rfl (by kernel_rfl) (by kernel_rfl) (by kernel_rfl) (fun _ _ _ h => h) (Or.inl ⟨by kernel_rfl, ?_⟩) (by assumption) ?_
      · intro w hE
        have q0 := hE.cell p0
        have q1 := hE.cell p1
        go_simp
      refine wpAnyH_take (i := 45) (v := .pointer (some ⟨Mb, 0, none⟩)) rfl (by kernel_rfl) (by kernel_rfl) (by kernel_rfl) (fun _ _ _ h => h) (Or.inl ⟨by kernel_rfl, ?_⟩) (by assumption) ?_
      · intro w hE
        go_simp
      refine wpAnyH_take (i := 46) (v := .int .u64 (maxOf a b)) rfl (by kernel_rfl) (by kernel_rfl) (by kernel_rfl) (fun _ _ _ h => h) (Or.inl ⟨by kernel_rfl, ?_⟩) (by assumption) ?_
      · intro w hE
        have q0 := hE.cell m0
        go_simp
      refine wpAnyH_take (i := 47) (v := .agg #[.int .i64 0, .int .u64 (maxOf a b)]) rfl (by kernel_rfl) (by kernel_rfl) (by kernel_rfl) (fun _ _ _ h => h) (Or.inl ⟨by kernel_rfl, ?_⟩) (by assumption) ?_
      · intro w hE
        go_simp
      refine wpAnyH_take (i := 48) (v := .bool true) rfl (by kernel_rfl) (by kernel_rfl) (by kernel_rfl) (fun _ _ _ h => h) (Or.inl ⟨by kernel_rfl, ?_⟩) (by assumption) ?_
      · intro w hE
        go_simp
      refine wpAnyH_take (i := 49) (v := .bool true) rfl (by kernel_rfl) (by kernel_rfl) (by kernel_rfl) (fun _ _ _ h => h) (Or.inl ⟨by kernel_rfl, ?_⟩) (by assumption) ?_
      · intro w hE
        go_simp
      refine wpAnyH_take (i := 50) (v := .bool true) rfl (by kernel_rfl) (by kernel_rfl) (by kernel_rfl) (fun _ _ _ h => h) (Or.inl ⟨by kernel_rfl, ?_⟩) (by assumption) ?_
      · intro w hE
        go_simp
      refine wpAnyH_done (by kernel_rfl) ?_ _
      go_simp
      have HEz := Lib.hid (HE.out.trans hHeld)
      clear HE hHeld
      go_wp2_with (fail)
      go_ret
      exact ⟨rfl, HEz.out⟩

end Go.Proofs.YtdipddnnckfnmaaGreat.Law

/- AutoFloats:
  AutoFloats: for every input the law returns true, and each argument reads behind the call as it read before. No condition.
-/
namespace Go.Proofs.YtdipddnnckfnmaaGreat.autoFloats
open Go.ChangeShapes Go.WideShapes Go.ChangeAt Go.RowKit Go.Joins Go.Deep

set_option maxRecDepth 100000 in
theorem lifted (os : Os) (started : os.Started) (H : Type) (enc : TypeId × Value → H) :
    ReturnsInHanded {} Tryz.checked os 7 .any (Rows.autoFloatsSpec.pre6 enc Tryz.prog Tryz.f7 Rows.autoFloatsRow.domain false) (Rows.autoFloatsSpec.post enc Tryz.prog Tryz.f7 false true false false) := by
  refine returnsInHanded_of_change (C := Tryz.checked) Law.own started (by kernel_rfl) Tryz.func7
    (ChangeSpec.witness6 (enc := enc) (C := Tryz.checked) false ⟨#[], #[.slice none 0 0, .int .u64 0, .int .u64 0, .int .u64 0], []⟩ 8 (by kernel_rfl) (by kernel_rfl) (by kernel_rfl) (by kernel_rfl)) ?_
  intro W base args ds gs before hval0 hW hcnd _
  have hval : ∀ (j : Nat) t v, Tryz.f7.params[j]? = some t → args[j]? = some v → Value.okWide Tryz.prog W .any base t v := hval0
  have hW' := hW
  obtain ⟨p, q, hA0, hV, rfl, hfz, hnd⟩ := hW
  have hA : DataW.TrodAll enc Tryz.prog W 0 (fun _ => true) true Tryz.f7.params.toList args.toList ds p := hA0
  rw [Tryz.params7] at hA hval
  obtain ⟨v0, vs0, d0, ds0, p0, q0, hargs, rfl, rfl, h0, r0⟩ := trodAll_cons hA
  obtain ⟨v1, vs1, d1, ds1, p1, q1, rfl, rfl, rfl, h1, r1⟩ := trodAll_cons r0
  obtain ⟨v2, vs2, d2, ds2, p2, q2, rfl, rfl, rfl, h2, r2⟩ := trodAll_cons r1
  obtain ⟨v3, vs3, d3, ds3, p3, q3, rfl, rfl, rfl, h3, r3⟩ := trodAll_cons r2
  obtain ⟨rfl, rfl, rfl⟩ := trodAll_nil r3
  obtain rfl : args = #[v0, v1, v2, v3] := by cases args; simp_all
  obtain ⟨s0, n0, c0, rfl, k0⟩ := Law.open_ts (hval 0 25 v0 rfl rfl) h0
  obtain ⟨a1, rfl, _, _, w1⟩ := open_int Tryz.underlying26 (hval 1 26 v1 rfl rfl) h1
  obtain ⟨a2, rfl, _, _, w2⟩ := open_int Tryz.underlying26 (hval 2 26 v2 rfl rfl) h2
  obtain ⟨a3, rfl, _, _, w3⟩ := open_int Tryz.underlying26 (hval 3 26 v3 rfl rfl) h3
  refine (Law.floats_walk a1 a2 a3 s0 n0 c0 W k0 (Law.u64_of w1) (Law.u64_of w2) (Law.u64_of w3)).mono fun e W' ⟨he, hg⟩ => ?_
  subst he
  exact ⟨_, rfl, Law.told hW' rfl rfl rfl (by kernel_rfl) hg⟩

theorem over : Rows.autoFloatsRow.holds Tryz.pinned (OpenSpec.ofChange Rows.autoFloatsSpec) :=
  OpenClaim.holds_of_wide 7 Tryz.f7 rfl rfl rfl rfl rfl rfl rfl ⟨rfl, rfl, rfl, rfl, rfl⟩ rfl rfl rfl rfl rfl (by kernel_rfl) Tryz.func7 (by kernel_rfl)
    (of_decide_eq_true (by kernel_rfl)) (by unfold Func.isWrapper; first | (rw [if_pos (by decide +kernel)]; kernel_rfl) | (rw [if_neg (by decide +kernel)]; exact ⟨rfl, rfl⟩))
    (fun os started H enc _ => lifted os started H enc)

end Go.Proofs.YtdipddnnckfnmaaGreat.autoFloats

namespace Go.Proofs.YtdipddnnckfnmaaGreat
theorem autoFloats_holds : Rows.AutoFloatsSaid := autoFloats.over
end Go.Proofs.YtdipddnnckfnmaaGreat

