/-
  Parts of a proof, one behind the other: LanTab, LanAll, LawBox. Each says its own conditions.
-/
import Derived.Test.YtdipddnnckfnmaaGreatM22

/- LanTab:
  put and Del of a table. Conditions: the state lies in a box that may be written, its rows are one's own, its keys rise, and each has a value.
-/
namespace Go.Proofs.YtdipddnnckfnmaaGreat.Lan
open Go.RowKit (Below intOf)
open Go.Proofs.YtdipddnnckfnmaaGreat.Aut
open Go.Proofs.YtdipddnnckfnmaaGreat.Reg (cf bx fits_any)

/-- What put does. -/
def putS (k m : Int) (s : St) (x y : Int) : St × Rs :=
  if mayK k x = true then (if hitK k s.keys (meantK k x) = true then ({ s with vals := s.vals.set (posK k s.keys (meantK k x)) y }, (0, s.vals.getD (posK k s.keys (meantK k x)) 0)) else if m ≤ (s.keys.length : Int) then (s, (11, 0)) else ({ s with keys := withL s.keys (posK k s.keys (meantK k x)) (meantK k x), vals := withL s.vals (posK k s.keys (meantK k x)) y }, (0, 0))) else (s, (10, 0))
/-- A row of one's own that is not empty. -/
theorem own_some {w : World} {base : Nat} {v : Sl} {ys : List Int} (h : w.ownsRow base 26 1 (.slice v.a v.n v.c) v.n (flatWS ys)) (hn : 0 < v.n) : ∃ g, v.a = some ⟨g, 0, none⟩ := by
  rcases h.2 with ⟨_, hz⟩ | ⟨g, cap, cur, e, _⟩
  · omega
  · exact ⟨g, by injection e⟩
theorem own_at {w : World} {base g n c : Nat} {ys : List Int} (h : w.ownsRow base 26 1 (.slice (some ⟨g, 0, none⟩) n c) n (flatWS ys)) {P : Nat} (hl : ys.length = n) (hP : P < n) : w.cell? ⟨g, P, none⟩ = some (.int .u64 (ys.getD P 0)) ∧ w.frozen? ⟨g, P, none⟩ = false := by
  refine ⟨?_, h.frozenAt P⟩
  rw [h.cellAt P (by omega), flatWS_0, List.getD_eq_getElem?_getD, List.getElem?_eq_getElem (by omega)]; rfl
/-- What Insert does to the values, behind the keys'. -/
theorem vals_ins {W : World} {M : Nat} {w w' : World} {B : Nat} {s : St} {xs : List Int} {a v t : Sl} (h : KB W M w w' B s xs a v t) (P : Nat) (y : Int) (hP : P ≤ v.n) (hn : v.n ≤ 1000000) (hy : U64 y) :
    Calls Tryz.prog 130 #[.slice v.a v.n v.c, .int .i64 (P : Int), .slice (some ⟨w'.heap.size, 0, none⟩) 1 1] (w'.alloc (.cells #[.int .u64 y] 26)) fun e w3 => ∃ sl c, e = .returned (.slice sl (v.n + 1) c) ∧ w3.cell? ⟨B, 2, none⟩ = some (.slice v.a v.n v.c) ∧ w3.frozen? ⟨B, 2, none⟩ = false ∧ QB W M w (w3.setCell ⟨B, 2, none⟩ (.slice sl (v.n + 1) c)) B { s with keys := xs, vals := withL s.vals P y } := by
  have E : Ext w' (w'.alloc (.cells #[.int .u64 y] 26)) := Ext.new _ _
  have hB := h.hB
  have hs := h.kp.2.1
  have hsW := h.kp.1.size
  have hvB : v.ob ≠ some B := fun q => (h.kv B q).2.2 rfl
  refine (insert_all (own_ext h.rv E) h.vv.len (World.alloc_heap_new w' _) (fun g hg => by have := h.kv g hg; omega) hn hP (Nat.le_trans hsW E.size) h.vv.range hy).mono ?_
  rintro e w3 ⟨sl, c, rfl, hws, hg, hx⟩
  have h2 := E.cell h.five.2.2.1
  refine ⟨sl, c, rfl, hg.cell h2 (fun q => hvB q.symm), ?_, h.fin E hg ⟨sl, v.n + 1, c⟩ hws hx⟩
  exact (hg.frozen_far ⟨B, 2, none⟩ (World.block_lt_of_cell? _ _ h2) (fun q => hvB q.symm)).trans ((E.frozen h.five.2.2.1).trans (h.fro 2))
theorem vals_del {W : World} {M : Nat} {w w' : World} {B : Nat} {s : St} {xs : List Int} {a v t : Sl} (h : KB W M w w' B s xs a v t) (P : Nat) (hP : P < v.n) :
    Calls Tryz.prog 127 #[.slice v.a v.n v.c, .int .i64 (P : Int), .int .i64 ((P : Int) + 1)] w' fun e w3 => e = .returned (.slice v.a (v.n - 1) v.c) ∧ w3.cell? ⟨B, 2, none⟩ = some (.slice v.a v.n v.c) ∧ w3.frozen? ⟨B, 2, none⟩ = false ∧ QB W M w (w3.setCell ⟨B, 2, none⟩ (.slice v.a (v.n - 1) v.c)) B { s with keys := xs, vals := withoutL s.vals P } := by
  have hB := h.hB
  have hvB : v.ob ≠ some B := fun q => (h.kv B q).2.2 rfl
  refine (delete_any W.heap.size v.a v.n v.c s.vals P w' h.rv h.vv.len h.vv.le hP h.vv.range).mono ?_
  rintro e w3 ⟨rfl, hws, g, ea, hg⟩
  have hob : v.ob = some g := by unfold Sl.ob; rw [ea]; rfl
  rw [← hob] at hg
  refine ⟨rfl, hg.cell h.five.2.2.1 (fun q => hvB q.symm), (hg.frozen_far ⟨B, 2, none⟩ (World.block_lt_of_cell? _ _ h.five.2.2.1) (fun q => hvB q.symm)).trans (h.fro 2), h.fin (Ext.refl _) hg ⟨v.a, v.n - 1, v.c⟩ hws (fun g' hg' => .inl ?_)⟩
  unfold Sl.ob at hg' ⊢; rw [ea] at hg' ⊢; exact hg'

set_option maxHeartbeats 2000000 in
set_option maxRecDepth 100000 in
theorem table_put {W : World} {M : Nat} {w : World} {B : Nat} {s : St} {a v t : Sl} (hW : WB W M w B s a v t) {k : Int} {T : TypeId} {fk fr fl : Nat} {x : Int} (h : Ky k T fk fr fl B a.a a.n a.c s x w) (m y : Int) (hm : m ≤ 1000000) (hv : v.n = a.n) (hy : U64 y) :
    Calls Tryz.prog 140 #[kd T m, .pointer (some ⟨B, 0, none⟩), .int .u64 x, .int .u64 y] w fun e w' => TE (putS k m s x y).2 e ∧ QB W M w w' B (putS k m s x y).1 := by
  have X0 := Lib.hid (Ext.new w (kbt 107 T m))
  obtain ⟨k1, k1b⟩ := kbt_new 107 T m w
  have HR : RowKit.Hid (∀ w1, Ext w w1 → QB W M w w1 B s) := Lib.hid fun w1 e => hW.P.read e
  by_cases hmay : mayK k x = true
  · have HK := Lib.hid (fun W => keyOf_yes h.I m x W h.x hmay)
    have HF : RowKit.Hid (∀ W, Ext w W → Calls Tryz.prog 114 #[kd T m, .pointer (some ⟨B, 0, none⟩), .int .u64 (meantK k x)] W fun e w' => e = .returned (.tuple #[.int .i64 (posK k s.keys (meantK k x) : Nat), .bool (hitK k s.keys (meantK k x))]) ∧ Ext W w') :=
      Lib.hid fun W hE => find_any h.I m (meantK k x) B a.a a.n a.c s.keys W (h.W.ext hE) (meant_u h.x) h.r (hE.cell h.b)
    have hlen := h.W.len
    have hvl := hW.P.ss.2.2.1.len
    have hvle := hW.P.ss.2.2.1.le
    by_cases hh : hitK k s.keys (meantK k x) = true
    · have e : putS k m s x y = ({ s with vals := s.vals.set (posK k s.keys (meantK k x)) y }, (0, s.vals.getD (posK k s.keys (meantK k x)) 0)) := by unfold putS; rw [if_pos hmay, if_pos hh]
      rw [e]
      rw [hh] at HF
      have hlt := hit_lt hh
      obtain ⟨g, hg⟩ := own_some hW.R.rv (by omega)
      have HC : RowKit.Hid (∀ w1, Ext w w1 → w1.cell? ⟨B, 2, none⟩ = some (.slice (some ⟨g, 0, none⟩) v.n v.c) ∧ w1.cell? ⟨g, posK k s.keys (meantK k x), none⟩ = some (.int .u64 (s.vals.getD (posK k s.keys (meantK k x)) 0)) ∧ w1.frozen? ⟨g, posK k s.keys (meantK k x), none⟩ = false) := Lib.hid fun w1 e1 => by
        have h1 := hW.ext e1
        have h5 := h1.P.five.2.2.1
        have hr := h1.R.rv
        rw [hg] at h5 hr
        exact ⟨h5, own_at hr hvl (by omega)⟩
      have HP : RowKit.Hid (∀ w1, Ext w w1 → QB W M w (w1.setCell ⟨g, posK k s.keys (meantK k x), none⟩ (.int .u64 y)) B { s with vals := s.vals.set (posK k s.keys (meantK k x)) y }) := Lib.hid fun w1 e1 => hW.put e1 hg _ hy
      have hPn : posK k s.keys (meantK k x) < v.n := by omega
      have hPi : ((posK k s.keys (meantK k x) : Nat) : Int) < (v.n : Int) := by omega
      generalize ({ s with vals := s.vals.set (posK k s.keys (meantK k x)) y } : St) = s' at *
      generalize s.vals.getD (posK k s.keys (meantK k x)) 0 = z at *
      generalize posK k s.keys (meantK k x) = P at *
      generalize meantK k x = X at *
      generalize v.n = vn at *
      generalize v.c = vc at *
      clear h hh hmay hW e hm hlt hlen hvl hv hg hy
      dsimp only [kd, kb, kbt] at *
      go_enter Tryz.func140, Tryz.ntmps140
      go_wp2_with (first
        | (go_at_call 108; (with_reducible refine (HK.out _).mono ?_); rintro e w' ⟨rfl, rfl⟩; replace k1 := box_alloc (x := (.cells #[] T)) (box_alloc (x := (.cells #[.iface T kE, .int .i64 m] 104)) k1); replace k1b := box_alloc (x := (.cells #[] T)) (box_alloc (x := (.cells #[.iface T kE, .int .i64 m] 104)) k1b))
        | (go_at_call 114; (with_reducible refine (HF.out _ (by repeat (first | exact X0.out | refine Ext.alloc ?_ _ | refine Ext.drew ?_))).mono ?_); rintro e w1 ⟨rfl, hE⟩; have E1 : RowKit.Hid (Ext w w1) := Lib.hid (Ext.trans (by repeat (first | exact X0.out | refine Ext.alloc ?_ _ | refine Ext.drew ?_)) hE); obtain ⟨c1, c2, c3⟩ := HC.out w1 E1.out; clear hE k1 k1b))
      go_ret
      exact ⟨te_ret _, HP.out _ E1.out⟩
    · have hh' : hitK k s.keys (meantK k x) = false := by simpa using hh
      rw [hh'] at HF
      by_cases hfull : m ≤ (s.keys.length : Int)
      · have e : putS k m s x y = (s, (11, 0)) := by unfold putS; rw [if_pos hmay, if_neg hh, if_pos hfull]
        rw [e]
        have HI : RowKit.Hid (∀ W i x, Ext w W → Calls Tryz.prog 125 #[kd T m, .pointer (some ⟨B, 0, none⟩), .int .i64 i, .int .u64 x] W fun e w' => e = .panicked (noE 11) ∧ Ext W w') := Lib.hid fun W i x e => insert_full (e.cell h.b) m i x (by omega)
        generalize posK k s.keys (meantK k x) = P at *
        generalize meantK k x = X at *
        clear h hh hh' hmay hW e hm hlen hfull hvl hvle hv hy
        dsimp only [kd, kb, kbt] at *
        go_enter Tryz.func140, Tryz.ntmps140
        go_wp2_with (first
          | (go_at_call 108; (with_reducible refine (HK.out _).mono ?_); rintro e w' ⟨rfl, rfl⟩; replace k1 := box_alloc (x := (.cells #[] T)) (box_alloc (x := (.cells #[.iface T kE, .int .i64 m] 104)) k1); replace k1b := box_alloc (x := (.cells #[] T)) (box_alloc (x := (.cells #[.iface T kE, .int .i64 m] 104)) k1b))
          | (go_at_call 114; (with_reducible refine (HF.out _ (by repeat (first | exact X0.out | refine Ext.alloc ?_ _ | refine Ext.drew ?_))).mono ?_); rintro e w1 ⟨rfl, hE⟩; have E1 : RowKit.Hid (Ext w w1) := Lib.hid (Ext.trans (by repeat (first | exact X0.out | refine Ext.alloc ?_ _ | refine Ext.drew ?_)) hE); replace k1 := hE.cell k1; replace k1b := hE.cell k1b; clear hE)
          | (go_at_call 125; (with_reducible refine (HI.out _ _ _ E1.out).mono ?_); rintro e w2 ⟨rfl, hE2⟩))
        exact ⟨rfl, te_no (by decide), HR.out _ (E1.out.trans hE2)⟩
      · have e : putS k m s x y = ({ s with keys := withL s.keys (posK k s.keys (meantK k x)) (meantK k x), vals := withL s.vals (posK k s.keys (meantK k x)) y }, (0, 0)) := by unfold putS; rw [if_pos hmay, if_neg hh, if_neg hfull]
        rw [e]
        have hpl := pos_le k s.keys (meantK k x)
        have HI : RowKit.Hid (∀ W', Ext w W' → Calls Tryz.prog 125 #[kd T m, .pointer (some ⟨B, 0, none⟩), .int .i64 (posK k s.keys (meantK k x) : Nat), .int .u64 (meantK k x)] W' fun e w' => e = .returned (.tuple #[]) ∧ w'.cell? ⟨B, 2, none⟩ = some (.slice v.a v.n v.c) ∧
            Calls Tryz.prog 130 #[.slice v.a v.n v.c, .int .i64 (posK k s.keys (meantK k x) : Nat), .slice (some ⟨w'.heap.size, 0, none⟩) 1 1] (w'.alloc (.cells #[.int .u64 y] 26)) fun e w3 => ∃ sl c, e = .returned (.slice sl (v.n + 1) c) ∧ w3.cell? ⟨B, 2, none⟩ = some (.slice v.a v.n v.c) ∧ w3.frozen? ⟨B, 2, none⟩ = false ∧ QB W M w (w3.setCell ⟨B, 2, none⟩ (.slice sl (v.n + 1) c)) B { s with keys := withL s.keys (posK k s.keys (meantK k x)) (meantK k x), vals := withL s.vals (posK k s.keys (meantK k x)) y }) := Lib.hid fun W' e =>
          (ins_ok (hW.ext e) T m _ _ (by omega) (by omega) (by omega) (meant_u h.x)).mono fun e' w' q => by
            obtain ⟨q1, a', q2⟩ := q
            exact ⟨q1, q2.five.2.2.1, (vals_ins q2 _ y (by omega) (by omega) hy).mono fun e3 w3 r => by
              obtain ⟨sl, c, r1, r2, r3, r4⟩ := r
              exact ⟨sl, c, r1, r2, r3, r4.from e⟩⟩
        generalize ({ s with keys := withL s.keys (posK k s.keys (meantK k x)) (meantK k x), vals := withL s.vals (posK k s.keys (meantK k x)) y } : St) = s' at *
        generalize posK k s.keys (meantK k x) = P at *
        generalize meantK k x = X at *
        clear h hh hh' hmay hW e hm hlen hfull hpl hvl hvle hv hy
        obtain ⟨va, vn, vc⟩ := v
        dsimp only [kd, kb, kbt] at *
        go_enter Tryz.func140, Tryz.ntmps140
        go_wp2_with (first
          | (go_at_call 108; (with_reducible refine (HK.out _).mono ?_); rintro e w' ⟨rfl, rfl⟩; replace k1 := box_alloc (x := (.cells #[] T)) (box_alloc (x := (.cells #[.iface T kE, .int .i64 m] 104)) k1); replace k1b := box_alloc (x := (.cells #[] T)) (box_alloc (x := (.cells #[.iface T kE, .int .i64 m] 104)) k1b))
          | (go_at_call 114; (with_reducible refine (HF.out _ (by repeat (first | exact X0.out | refine Ext.alloc ?_ _ | refine Ext.drew ?_))).mono ?_); rintro e w1 ⟨rfl, hE⟩; have E1 : RowKit.Hid (Ext w w1) := Lib.hid (Ext.trans (by repeat (first | exact X0.out | refine Ext.alloc ?_ _ | refine Ext.drew ?_)) hE); replace k1 := hE.cell k1; replace k1b := hE.cell k1b; clear hE)
          | (go_at_call 125; (with_reducible refine (HI.out _ E1.out).mono ?_); rintro e w2 ⟨rfl, c1, hQ⟩; have HQ := Lib.hid hQ; have c1b := box_alloc (x := (.cells #[.int .u64 y] 26)) c1; clear hQ k1 k1b)
          | (go_at_call 130; (with_reducible refine HQ.out.mono ?_); rintro e w3 ⟨sl, c, rfl, d1, d2, hF⟩; have HF3 := Lib.hid hF; clear hF c1 c1b))
        go_ret
        exact ⟨te_ret _, HF3.out⟩
  · have hmay' : mayK k x = false := by simpa using hmay
    have e : putS k m s x y = (s, (10, 0)) := by unfold putS; rw [if_neg hmay]
    rw [e]
    have HK := Lib.hid (fun W => keyOf_no h.I m x W h.x hmay')
    clear h hmay hmay' hW e hm hv hy
    dsimp only [kd, kb, kbt] at *
    go_enter Tryz.func140, Tryz.ntmps140
    go_wp2_with (first
      | (go_at_call 108; (with_reducible refine (HK.out _).mono ?_); rintro e w' ⟨rfl, rfl⟩))
    exact ⟨rfl, te_no (by decide), HR.out _ ((X0.out.alloc _).alloc _)⟩

set_option maxHeartbeats 1000000 in
set_option maxRecDepth 100000 in
theorem table_11 {W : World} {M : Nat} {w : World} {B : Nat} {s : St} {a v t : Sl} (hW : WB W M w B s a v t) {k : Int} {T : TypeId} {fk fr fl : Nat} {x : Int} (h : Ky k T fk fr fl B a.a a.n a.c s x w) (m y : Int) (hm : m ≤ 1000000) (hv : v.n = a.n) (hy : U64 y) :
    Calls Tryz.prog 136 #[kd T m, .pointer (some ⟨B, 0, none⟩), ov 11 x y] w fun e w' => TE (putS k m s x y).2 e ∧ QB W M w w' B (putS k m s x y).1 := by
  have X0 := Lib.hid ((Ext.new w (kbt 107 T m)).alloc (ob 11 x y))
  have HA := Lib.hid ((table_put (hW.ext X0.out) (h.ext X0.out) m y hm hv hy).mono fun e w' q => (⟨q.1, q.2.from X0.out⟩ : TE (putS k m s x y).2 e ∧ QB W M w w' B (putS k m s x y).1))
  obtain ⟨⟨k1, k1b⟩, k2, k3, k4⟩ := two_newT 107 T m 11 x y w
  clear h hW hm hv hy
  generalize putS k m s x y = d at *
  dsimp only [kd, kb, kbt, ov, ob] at *
  go_enter Tryz.func136, Tryz.ntmps136
  go_wp2_with (first | (go_at_call 140; (with_reducible refine HA.out.mono ?_); rintro e w' ⟨hT, hQ⟩; rcases hT with ⟨h0, rfl⟩ | ⟨h0, h1, rfl⟩))
  · go_ret
    exact ⟨.inl ⟨h0, rfl⟩, hQ⟩
  · exact ⟨rfl, .inr ⟨h0, h1, rfl⟩, hQ⟩

/-- What Del of a table does. -/
def delT (k : Int) (s : St) (x : Int) : St × Rs :=
  if mayK k x = true then (if hitK k s.keys (meantK k x) = true then ({ s with keys := withoutL s.keys (posK k s.keys (meantK k x)), vals := withoutL s.vals (posK k s.keys (meantK k x)) }, (0, s.vals.getD (posK k s.keys (meantK k x)) 0)) else (s, (12, 0))) else (s, (10, 0))
set_option maxHeartbeats 1000000 in
set_option maxRecDepth 100000 in
theorem table_7 {W : World} {M : Nat} {w : World} {B : Nat} {s : St} {a v t : Sl} (hW : WB W M w B s a v t) {k : Int} {T : TypeId} {fk fr fl : Nat} {x : Int} (h : Ky k T fk fr fl B a.a a.n a.c s x w) (m y : Int) (hv : v.n = a.n) :
    Calls Tryz.prog 136 #[kd T m, .pointer (some ⟨B, 0, none⟩), ov 7 x y] w fun e w' => TE (delT k s x).2 e ∧ QB W M w w' B (delT k s x).1 := by
  have X0 := Lib.hid ((Ext.new w (kbt 107 T m)).alloc (ob 7 x y))
  obtain ⟨⟨k1, k1b⟩, k2, k3, k4⟩ := two_newT 107 T m 7 x y w
  have HR : RowKit.Hid (∀ w1, Ext w w1 → QB W M w w1 B s) := Lib.hid fun w1 e => hW.P.read e
  by_cases hmay : mayK k x = true
  · by_cases hh : hitK k s.keys (meantK k x) = true
    · have e : delT k s x = ({ s with keys := withoutL s.keys (posK k s.keys (meantK k x)), vals := withoutL s.vals (posK k s.keys (meantK k x)) }, (0, s.vals.getD (posK k s.keys (meantK k x)) 0)) := by unfold delT; rw [if_pos hmay, if_pos hh]
      rw [e]
      have hlt := hit_lt hh
      have hlen := h.W.len
      have hvl := hW.P.ss.2.2.1.len
      have hvle := hW.P.ss.2.2.1.le
      have hPn : posK k s.keys (meantK k x) < v.n := by omega
      obtain ⟨vg, hvg⟩ := own_some hW.R.rv (by omega)
      have HD : RowKit.Hid (Calls Tryz.prog 117 #[kd T m, .pointer (some ⟨B, 0, none⟩), .int .u64 x] ((w.alloc (kbt 107 T m)).alloc (ob 7 x y)) fun e w' => e = .returned (.int .i64 (posK k s.keys (meantK k x) : Nat)) ∧ w'.cell? ⟨B, 2, none⟩ = some (.slice (some ⟨vg, 0, none⟩) v.n v.c) ∧ w'.cell? ⟨vg, posK k s.keys (meantK k x), none⟩ = some (.int .u64 (s.vals.getD (posK k s.keys (meantK k x)) 0)) ∧
          Calls Tryz.prog 127 #[.slice (some ⟨vg, 0, none⟩) v.n v.c, .int .i64 (posK k s.keys (meantK k x) : Nat), .int .i64 (((posK k s.keys (meantK k x) : Nat) : Int) + 1)] w' fun e w3 => e = .returned (.slice (some ⟨vg, 0, none⟩) (v.n - 1) v.c) ∧ w3.cell? ⟨B, 2, none⟩ = some (.slice (some ⟨vg, 0, none⟩) v.n v.c) ∧ w3.frozen? ⟨B, 2, none⟩ = false ∧ QB W M w (w3.setCell ⟨B, 2, none⟩ (.slice (some ⟨vg, 0, none⟩) (v.n - 1) v.c)) B { s with keys := withoutL s.keys (posK k s.keys (meantK k x)), vals := withoutL s.vals (posK k s.keys (meantK k x)) }) := Lib.hid (
        (drop_yes (hW.ext X0.out) (h.ext X0.out) m hmay hh _ rfl (by omega)).mono fun e w' q => by
          obtain ⟨q1, w1, w2, g, e1, hg, ea, _, _, hws, rfl⟩ := q
          have hob : a.ob = some g := by unfold Sl.ob; rw [ea]; rfl
          have hK := kb_of hW (X0.out.trans e1) (by rw [hob]; exact hg) ⟨a.a, a.n - 1, a.c⟩ hws (fun g' hg' => .inl (by unfold Sl.ob at hg' ⊢; rw [ea] at hg' ⊢; exact hg'))
          have h5 := hK.five.2.2.1
          have hr := hK.rv
          have hd := vals_del hK (posK k s.keys (meantK k x)) hPn
          rw [hvg] at h5 hr hd
          exact ⟨q1, h5, (own_at hr hvl hPn).1, hd⟩)
      have hPi : ((posK k s.keys (meantK k x) : Nat) : Int) < (v.n : Int) := by omega
      generalize ({ s with keys := withoutL s.keys (posK k s.keys (meantK k x)), vals := withoutL s.vals (posK k s.keys (meantK k x)) } : St) = s' at *
      generalize s.vals.getD (posK k s.keys (meantK k x)) 0 = z at *
      generalize posK k s.keys (meantK k x) = P at *
      generalize v.n = vn at *
      generalize v.c = vc at *
      clear h hh hmay hW e hlt hlen hvl hvg hv
      dsimp only [kd, kb, kbt, ov, ob] at *
      go_enter Tryz.func136, Tryz.ntmps136
      go_wp2_with (first
        | (go_at_call 117; (with_reducible refine HD.out.mono ?_); rintro e w' ⟨rfl, c1, c2, hQ⟩; have HQ := Lib.hid hQ; clear hQ)
        | (go_at_call 127; (with_reducible refine HQ.out.mono ?_); rintro e w3 ⟨rfl, d1, d2, hF⟩; have HF3 := Lib.hid hF; clear hF c1 c2))
      go_ret
      exact ⟨te_ret _, HF3.out⟩
    · have e : delT k s x = (s, (12, 0)) := by unfold delT; rw [if_pos hmay, if_neg hh]
      rw [e]
      have HD := Lib.hid (drop_no (h.ext X0.out) m 12 (.inl ⟨hmay, by simpa using hh, rfl⟩))
      clear h hh hmay hW e hv
      dsimp only [kd, kb, kbt, ov, ob] at *
      go_enter Tryz.func136, Tryz.ntmps136
      go_wp2_with (first | (go_at_call 117; (with_reducible refine HD.out.mono ?_); rintro e w' ⟨rfl, hE⟩))
      exact ⟨rfl, te_no (by decide), HR.out _ (X0.out.trans hE)⟩
  · have e : delT k s x = (s, (10, 0)) := by unfold delT; rw [if_neg hmay]
    rw [e]
    have HD := Lib.hid (drop_no (h.ext X0.out) m 10 (.inr ⟨by simpa using hmay, rfl⟩))
    clear h hmay hW e hv
    dsimp only [kd, kb, kbt, ov, ob] at *
    go_enter Tryz.func136, Tryz.ntmps136
    go_wp2_with (first | (go_at_call 117; (with_reducible refine HD.out.mono ?_); rintro e w' ⟨rfl, hE⟩))
    exact ⟨rfl, te_no (by decide), HR.out _ (X0.out.trans hE)⟩

end Go.Proofs.YtdipddnnckfnmaaGreat.Lan

/- LanAll:
  What objects with keys do to a state of their own, and Do of all objects. Conditions: the state's and the call's words are words.
-/
namespace Go.Proofs.YtdipddnnckfnmaaGreat.Lan
open Go.RowKit (Below intOf)
open Go.Proofs.YtdipddnnckfnmaaGreat.Aut
open Go.Proofs.YtdipddnnckfnmaaGreat.Reg (cf bx fits_any)

theorem look_tab {k m : Int} {s : St} {c x y : Int} (hx : U64 x) (hu : ∀ y ∈ s.keys, U64 y ∧ meantK k y = y) (h7 : ¬ c = 7) (h5 : ¬ (c = 5 ∧ valued k = false)) (h6 : ¬ (c = 6 ∧ valued k = false)) (h10 : ¬ (c = 10 ∧ valued k = true)) (h11 : ¬ (c = 11 ∧ valued k = true)) : tableS k m s ⟨c, x, y⟩ = (s, lookS k s ⟨c, x, y⟩) := by
  by_cases h8 : c = 8
  · subst h8
    refine Prod.ext ?_ (table_8 hx hu).symm
    unfold tableS
    rw [if_neg (show ¬ (⟨8, x, y⟩ : Cl).code = 9 by simp)]
    split
    · unfold placedS
      rw [if_neg (show ¬ (⟨8, x, y⟩ : Cl).code = 7 by simp), if_pos rfl]
      exact next_same _ _
    · rfl
  · unfold lookS tableS
    rw [if_neg (show ¬ (⟨c, x, y⟩ : Cl).code = 8 from h8)]
    by_cases h9 : c = 9
    · rw [if_pos (show (⟨c, x, y⟩ : Cl).code = 9 from h9), if_pos (show (⟨c, x, y⟩ : Cl).code = 9 from h9)]
    · rw [if_neg (show ¬ (⟨c, x, y⟩ : Cl).code = 9 from h9), if_neg (show ¬ (⟨c, x, y⟩ : Cl).code = 9 from h9)]
      split
      · unfold placedS
        rw [if_neg (show ¬ (⟨c, x, y⟩ : Cl).code = 7 from h7), if_neg (show ¬ (⟨c, x, y⟩ : Cl).code = 8 from h8), if_neg (show ¬ ((⟨c, x, y⟩ : Cl).code = 5 ∧ valued k = false) from h5), if_neg (show ¬ ((⟨c, x, y⟩ : Cl).code = 10 ∧ valued k = true) from h10), if_neg (show ¬ ((⟨c, x, y⟩ : Cl).code = 6 ∧ valued k = false) from h6), if_neg (show ¬ ((⟨c, x, y⟩ : Cl).code = 11 ∧ valued k = true) from h11)]
      · rfl
theorem tab_6 {k m : Int} {s : St} {x y : Int} (hx : U64 x) (hK : KeysOk k m s) (hW : Wd s) (hv : valued k = false) : tableS k m s ⟨6, x, y⟩ = addS k m s x := by
  have hu := keys_wd hK hW
  have hl := hK.1
  unfold tableS addS
  rw [if_neg (show ¬ (⟨6, x, y⟩ : Cl).code = 9 by simp)]
  by_cases hm : mayK k x = true
  · rw [if_pos hm, if_pos (show mayK k (⟨6, x, y⟩ : Cl).key = true from hm), hit_here (meant_u hx) (meant_meant k x) hu]
    unfold placedS
    rw [if_neg (show ¬ (⟨6, x, y⟩ : Cl).code = 7 by simp), if_neg (show ¬ (⟨6, x, y⟩ : Cl).code = 8 by simp), if_neg (show ¬ ((⟨6, x, y⟩ : Cl).code = 5 ∧ valued k = false) by simp), if_neg (show ¬ ((⟨6, x, y⟩ : Cl).code = 10 ∧ valued k = true) by simp), if_pos ⟨rfl, hv⟩]
    by_cases hf : (s.keys.length : Int) = m
    · rw [if_pos hf, if_pos (show m ≤ (s.keys.length : Int) by omega)]
    · rw [if_neg hf, if_neg (show ¬ m ≤ (s.keys.length : Int) by omega)]
  · rw [if_neg hm, if_neg (show ¬ mayK k (⟨6, x, y⟩ : Cl).key = true from hm)]
theorem tab_7 {k m : Int} {s : St} {x y : Int} (hx : U64 x) (hu : ∀ y ∈ s.keys, U64 y ∧ meantK k y = y) : tableS k m s ⟨7, x, y⟩ = if valued k = true then delT k s x else delS k s x := by
  unfold tableS delT delS
  rw [if_neg (show ¬ (⟨7, x, y⟩ : Cl).code = 9 by simp)]
  by_cases hm : mayK k x = true
  · rw [if_pos hm, if_pos hm, if_pos (show mayK k (⟨7, x, y⟩ : Cl).key = true from hm), hit_here (meant_u hx) (meant_meant k x) hu]
    unfold placedS
    rw [if_pos rfl]
    by_cases h1 : hereK s.keys (posK k s.keys (meantK k x)) (meantK k x) = true
    · rw [if_pos h1, if_pos h1, if_pos h1]
    · rw [if_neg h1, if_neg h1, if_neg h1]; split <;> rfl
  · rw [if_neg hm, if_neg hm, if_neg (show ¬ mayK k (⟨7, x, y⟩ : Cl).key = true from hm)]; split <;> rfl
theorem tab_11 {k m : Int} {s : St} {x y : Int} (hx : U64 x) (hK : KeysOk k m s) (hW : Wd s) (hv : valued k = true) : tableS k m s ⟨11, x, y⟩ = putS k m s x y := by
  have hu := keys_wd hK hW
  have hl := hK.1
  unfold tableS putS
  rw [if_neg (show ¬ (⟨11, x, y⟩ : Cl).code = 9 by simp)]
  by_cases hm : mayK k x = true
  · rw [if_pos hm, if_pos (show mayK k (⟨11, x, y⟩ : Cl).key = true from hm), hit_here (meant_u hx) (meant_meant k x) hu]
    unfold placedS
    rw [if_neg (show ¬ (⟨11, x, y⟩ : Cl).code = 7 by simp), if_neg (show ¬ (⟨11, x, y⟩ : Cl).code = 8 by simp), if_neg (show ¬ ((⟨11, x, y⟩ : Cl).code = 5 ∧ valued k = false) by simp), if_neg (show ¬ ((⟨11, x, y⟩ : Cl).code = 10 ∧ valued k = true) by simp), if_neg (show ¬ ((⟨11, x, y⟩ : Cl).code = 6 ∧ valued k = false) by simp), if_pos ⟨rfl, hv⟩]
    by_cases hf : (s.keys.length : Int) = m
    · rw [if_pos hf, if_pos (show m ≤ (s.keys.length : Int) by omega)]
    · rw [if_neg hf, if_neg (show ¬ m ≤ (s.keys.length : Int) by omega)]
  · rw [if_neg hm, if_neg (show ¬ mayK k (⟨11, x, y⟩ : Cl).key = true from hm)]
theorem tab_5 {k m : Int} {s : St} {x y : Int} (hx : U64 x) (hu : ∀ y ∈ s.keys, U64 y ∧ meantK k y = y) (hv : valued k = false) : tableS k m s ⟨5, x, y⟩ = (s, if mayK k x = true then (0, bitZ (hitK k s.keys (meantK k x))) else (10, 0)) := by
  unfold tableS
  rw [if_neg (show ¬ (⟨5, x, y⟩ : Cl).code = 9 by simp)]
  by_cases hm : mayK k x = true
  · rw [if_pos hm, if_pos (show mayK k (⟨5, x, y⟩ : Cl).key = true from hm), hit_here (meant_u hx) (meant_meant k x) hu]
    unfold placedS
    rw [if_neg (show ¬ (⟨5, x, y⟩ : Cl).code = 7 by simp), if_neg (show ¬ (⟨5, x, y⟩ : Cl).code = 8 by simp), if_pos ⟨rfl, hv⟩]
  · rw [if_neg hm, if_neg (show ¬ mayK k (⟨5, x, y⟩ : Cl).key = true from hm)]
theorem tab_10s {k m : Int} {s : St} {x y : Int} (hv : valued k = true) : (tableS k m s ⟨10, x, y⟩).1 = s := by
  unfold tableS
  rw [if_neg (show ¬ (⟨10, x, y⟩ : Cl).code = 9 by simp)]
  split
  · unfold placedS
    rw [if_neg (show ¬ (⟨10, x, y⟩ : Cl).code = 7 by simp), if_neg (show ¬ (⟨10, x, y⟩ : Cl).code = 8 by simp), if_neg (show ¬ ((⟨10, x, y⟩ : Cl).code = 5 ∧ valued k = false) by simp), if_pos ⟨rfl, hv⟩]
    split <;> rfl
  · rfl

theorem ci_set {p m : Int} {s : St} {o : Cl} (hR : rightS 2 p m s = true) (hWd : Wd s) (ho : Wc o) : CI 2 m s o (oT 2) (oV 2 m) := by
  have hb := fits_of (right_fits hR)
  have hK := keys_of hR rfl
  have hu := keys_wd hK hWd
  refine ⟨110, kd (kT 2) m, fun w => by kernel_rfl, fun a b w => by kernel_rfl, fun W M w B a v t h => ?_⟩
  obtain ⟨c, x, y⟩ := o
  have e : doS 2 m s ⟨c, x, y⟩ = tableS 2 m s ⟨c, x, y⟩ := by unfold doS; rw [if_neg (by decide), if_pos (show keyed 2 = true by decide)]
  rw [e]
  obtain ⟨fk, fr, fl, I⟩ := keys_is 2
  have hx : U64 x := ho.2.1
  have hKy : Ky 2 (kT 2) fk fr fl B a.a a.n a.c s x w := ⟨I, h.P.ss.2.1, hx, hK.2.2.2, h.P.five.2.1⟩
  by_cases h5 : c = 5
  · subst h5
    rw [tab_5 hx hu (by decide)]
    by_cases hm : mayK 2 x = true
    · rw [if_pos hm]
      exact (set_has hKy m y hm _ rfl).mono fun e w' q => ⟨q.1 ▸ te_ret _, h.P.read q.2⟩
    · rw [if_neg hm]
      exact (set_has_bad I m x y B w hx (by simpa using hm)).mono fun e w' q => ⟨q.1 ▸ te_no (by decide), h.P.read q.2⟩
  by_cases h6 : c = 6
  · subst h6
    rw [tab_6 hx hK hWd (by decide)]
    exact set_6 h hKy m y (by omega)
  by_cases h7 : c = 7
  · subst h7
    rw [tab_7 hx hu, if_neg (by decide)]
    exact set_7 h hKy m y
  rw [look_tab hx hu h7 (fun q => h5 q.1) (fun q => h6 q.1) (fun q => absurd q.2 (by decide)) (fun q => absurd q.2 (by decide))]
  exact (set_look hKy m c y h5 h6 h7).mono fun e w' q => ⟨q.1, h.P.read q.2⟩

theorem ci_tab {k p m : Int} {s : St} {o : Cl} (hk : k = 3 ∨ k = 4) (hR : rightS k p m s = true) (hWd : Wd s) (ho : Wc o) : ∀ W M w B a v t, WB W M w B s a v t → Calls Tryz.prog 136 #[kd (kT k) m, .pointer (some ⟨B, 0, none⟩), opv o] w fun e w' => TE (doS k m s o).2 e ∧ QB W M w w' B (doS k m s o).1 := by
  intro W M w B a v t h
  have hb := fits_of (right_fits hR)
  have hv : valued k = true := by unfold valued; exact decide_eq_true hk
  have hkk := valued_of hv
  have hK := keys_of hR hkk
  have hu := keys_wd hK hWd
  obtain ⟨c, x, y⟩ := o
  have e : doS k m s ⟨c, x, y⟩ = tableS k m s ⟨c, x, y⟩ := by unfold doS; rw [if_neg (by omega), if_pos hkk]
  rw [e]
  obtain ⟨fk, fr, fl, I⟩ := keys_is k
  have hx : U64 x := ho.2.1
  have hKy : Ky k (kT k) fk fr fl B a.a a.n a.c s x w := ⟨I, h.P.ss.2.1, hx, hK.2.2.2, h.P.five.2.1⟩
  have hvn : v.n = a.n := by
    have h1 := h.P.ss.2.1.len
    have h2 := h.P.ss.2.2.1.len
    have h3 := hK.2.1
    rw [if_pos hv] at h3
    omega
  by_cases h10 : c = 10
  · subst h10
    have := tab_read hk hK hWd h.P.five h.P.ss 10 x y (.inr rfl) hx
    refine this.mono fun e w' q => ⟨q.1, ?_⟩
    rw [tab_10s hv]
    exact h.P.read q.2
  by_cases h11 : c = 11
  · subst h11
    rw [tab_11 hx hK hWd hv]
    exact table_11 h hKy m y (by omega) hvn ho.2.2
  by_cases h7 : c = 7
  · subst h7
    rw [tab_7 hx hu, if_pos hv]
    exact table_7 h hKy m y hvn
  rw [look_tab hx hu h7 (fun q => absurd q.2 (by rw [hv]; simp)) (fun q => absurd q.2 (by rw [hv]; simp)) (fun q => h10 q.1) (fun q => h11 q.1)]
  exact (table_look hKy m c y h10 h11 h7).mono fun e w' q => ⟨q.1, h.P.read q.2⟩

theorem ci_all {k p m : Int} {s : St} {o : Cl} (hR : rightS k p m s = true) (hWd : Wd s) (ho : Wc o) : CI k m s o (oT k) (oV k m) := by
  rcases kinds (right_fits hR) with rfl | rfl | rfl | rfl | rfl
  · exact ci_reg ho
  · exact ci_set hR hWd ho
  · exact ⟨136, kd (kT 3) m, fun w => by kernel_rfl, fun a b w => by kernel_rfl, ci_tab (.inl rfl) hR hWd ho⟩
  · exact ⟨136, kd (kT 4) m, fun w => by kernel_rfl, fun a b w => by kernel_rfl, ci_tab (.inr rfl) hR hWd ho⟩
  · exact ci_bal hR ho
/-- Do. -/
theorem do_all (k p m : Int) (a v t : Sl) (s : St) (o : Cl) (w : World) (hS : SS w a v t s) (ho : Wc o) :
    Calls Tryz.prog 21 #[cf k p m, sv s.reg a v t s.closed, opv o] w (DoE (doF k p m s o) w) := do_any k p m a v t s o w hS fun _ hR => ci_all hR hS.wd ho
/-- And where the answer's rows do not lie. -/
theorem do_all2 (k p m : Int) (a v t : Sl) (s : St) (o : Cl) (w : World) (hS : SS w a v t s) (ho : Wc o) :
    Calls Tryz.prog 21 #[cf k p m, sv s.reg a v t s.closed, opv o] w (DoE2 (doF k p m s o) w) := do_any2 k p m a v t s o w hS fun _ hR => ci_all hR hS.wd ho

end Go.Proofs.YtdipddnnckfnmaaGreat.Lan

/- LawBox:
  Boxes of the laws' own variables, and what a law's calls keep of them. No condition.
-/
namespace Go.Proofs.YtdipddnnckfnmaaGreat.Law
open Go.RowKit (Below intOf)
open Go.Proofs.YtdipddnnckfnmaaGreat.Aut
open Go.Proofs.YtdipddnnckfnmaaGreat.Lan (DoE opv)
open Go.Proofs.YtdipddnnckfnmaaGreat.Reg (cf bx fits_any)

/-- A block's first cells. -/
def Box (w : World) (b : Nat) (cs : List Value) : Prop := b < w.heap.size ∧ ∀ i v, cs[i]? = some v → w.cell? ⟨b, i, none⟩ = some v
theorem Box.ext {w w' : World} {b : Nat} {cs : List Value} (h : Box w b cs) (e : Ext w w') : Box w' b cs := ⟨Nat.lt_of_lt_of_le h.1 e.size, fun i v hv => e.cell (h.2 i v hv)⟩
theorem Box.new (w : World) (cs : List Value) (t : TypeId) : Box (w.alloc (.cells cs.toArray t)) w.heap.size cs :=
  ⟨by simp, fun i v hv => by
    unfold World.cell?; rw [World.alloc_heap_new]
    simpa using hv⟩
theorem Box.two {w : World} {b : Nat} {x y : Value} (h : Box w b [x, y]) : b < w.heap.size ∧ w.cell? ⟨b, 0, none⟩ = some x ∧ w.cell? ⟨b, 1, none⟩ = some y := ⟨h.1, h.2 0 _ rfl, h.2 1 _ rfl⟩
theorem Box.three {w : World} {b : Nat} {x y z : Value} (h : Box w b [x, y, z]) : b < w.heap.size ∧ w.cell? ⟨b, 0, none⟩ = some x ∧ w.cell? ⟨b, 1, none⟩ = some y ∧ w.cell? ⟨b, 2, none⟩ = some z := ⟨h.1, h.2 0 _ rfl, h.2 1 _ rfl, h.2 2 _ rfl⟩
theorem Box.five {w : World} {b : Nat} {x y z u v : Value} (h : Box w b [x, y, z, u, v]) : b < w.heap.size ∧ w.cell? ⟨b, 0, none⟩ = some x ∧ w.cell? ⟨b, 1, none⟩ = some y ∧ w.cell? ⟨b, 2, none⟩ = some z ∧ w.cell? ⟨b, 3, none⟩ = some u ∧ w.cell? ⟨b, 4, none⟩ = some v := ⟨h.1, h.2 0 _ rfl, h.2 1 _ rfl, h.2 2 _ rfl, h.2 3 _ rfl, h.2 4 _ rfl⟩

/-- What the program's Do answers, of whatever may come. -/
def DoAll : Prop := ∀ (k p m : Int) (a v t : Sl) (s : St) (o : Cl) (w : World), SS w a v t s → Wc o → Calls Tryz.prog 21 #[cf k p m, sv s.reg a v t s.closed, opv o] w (DoE (doF k p m s o) w)

end Go.Proofs.YtdipddnnckfnmaaGreat.Law

