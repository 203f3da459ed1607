/-
  Parts of a proof, one behind the other: LanPairs, LanProbe, LanBox, LanReg, LanBal. Each says its own conditions.
-/
import Derived.Test.YtojdhnecafkibaaM07
import Derived.Defers
import Derived.Recover

/- LanPairs:
  pairs: what was told of keys, and of their values. Conditions: what was told are answers, at most so many.
-/
namespace Go.Proofs.Ytojdhnecafkibaa.Lan
open Go.RowKit (Below intOf)
open Go.Proofs.Ytojdhnecafkibaa.Aut
open Go.Proofs.Ytojdhnecafkibaa.Reg (cf bx fits_any)

/-- append of one answer onto a row of one's own. -/
theorem addRS {w : World} {base n c : Nat} {sl : Option Addr} {ys : List Rs} (hown : w.ownsRow base 41 2 (.slice sl n c) n (flatRS ys)) {b : Nat} {z : Rs} (hS : RS w (some ⟨b, 0, none⟩) 1 1 [z]) (hle : n + 1 ≤ 4194304) (hbase : base ≤ w.heap.size) :
    ∃ sl' c' w', RowKit.Hid ((Builtin.append_ #[45, 45] 45 #[.slice sl n c, .slice (some ⟨b, 0, none⟩) 1 1]).run Try.prog w = .ok (.slice sl' (n + 1) c') w') ∧ w'.ownsRow base 41 2 (.slice sl' (n + 1) c') (n + 1) (flatRS (ys ++ [z])) ∧ w.grownBy w' (Value.slice sl n c).ownBlock ∧
      ((Value.slice sl' (n + 1) c').ownBlock = (Value.slice sl n c).ownBlock ∨ (Value.slice sl' (n + 1) c').ownBlock = some w.heap.size) := by
  obtain ⟨i0, hi, hz0, hz1, hz2⟩ := info_parts infoRS
  obtain ⟨v', w', hrun, h2, h3, _, h5⟩ := run_append_own_at (P := Try.prog) w base 45 45 41 i0 _ 2 16 Try.underlying45 hi hz0 hz1 hz2 rfl (by decide) _ n (flatRS ys) hown ⟨b, 0, none⟩ 1 1 (flatRS [z]) (by rw [flatRS_len]; rfl) hS.news (flatRS_one [z]) (by unfold maxLen; omega) (by omega) hbase
  obtain ⟨sl', c', rfl⟩ := own_form h2
  exact ⟨sl', c', w', Lib.hid hrun, by rw [flatRS_append]; exact h2, h3, h5⟩

/-- Two rows of one's own, apart. -/
structure TwoR (W w : World) (ka : Option Addr) (kn kc : Nat) (va : Option Addr) (vn vc : Nat) (xs ys : List Rs) : Prop where
  k : w.ownsRow W.heap.size 41 2 (.slice ka kn kc) kn (flatRS xs)
  v : w.ownsRow W.heap.size 41 2 (.slice va vn vc) vn (flatRS ys)
  a : (Value.slice ka kn kc).ownBlock = none ∨ (Value.slice ka kn kc).ownBlock ≠ (Value.slice va vn vc).ownBlock
  lk : xs.length = kn
  lv : ys.length = vn
  e : Ext W w
theorem TwoR.swap {W w : World} {ka : Option Addr} {kn kc : Nat} {va : Option Addr} {vn vc : Nat} {xs ys : List Rs} (h : TwoR W w ka kn kc va vn vc xs ys) : TwoR W w va vn vc ka kn kc ys xs :=
  ⟨h.v, h.k, by
    rcases h.a with c | c
    · by_cases d : (Value.slice va vn vc).ownBlock = none
      · exact .inl d
      · exact .inr (by rw [c]; exact d)
    · exact .inr c.symm, h.lv, h.lk, h.e⟩
theorem TwoR.alloc {W w : World} {ka : Option Addr} {kn kc : Nat} {va : Option Addr} {vn vc : Nat} {xs ys : List Rs} (h : TwoR W w ka kn kc va vn vc xs ys) (o : Obj) : TwoR W (w.alloc o) ka kn kc va vn vc xs ys :=
  ⟨h.k.alloc o, h.v.alloc o, h.a, h.lk, h.lv, h.e.alloc o⟩
theorem TwoR.add {W w : World} {ka : Option Addr} {kn kc : Nat} {va : Option Addr} {vn vc : Nat} {xs ys : List Rs} (h : TwoR W w ka kn kc va vn vc xs ys) {b : Nat} {z : Rs} (hS : RS w (some ⟨b, 0, none⟩) 1 1 [z]) (hle : kn + 1 ≤ 4194304) :
    ∃ sl' c' w', RowKit.Hid ((Builtin.append_ #[45, 45] 45 #[.slice ka kn kc, .slice (some ⟨b, 0, none⟩) 1 1]).run Try.prog w = .ok (.slice sl' (kn + 1) c') w') ∧ TwoR W w' sl' (kn + 1) c' va vn vc (xs ++ [z]) ys := by
  obtain ⟨sl', c', w', h1, h2, h3, h4⟩ := addRS h.k hS hle h.e.size
  have hv := h.v.lt
  refine ⟨sl', c', w', h1, h2, h.v.kept h3 ?_, ?_, by rw [List.length_append, h.lk]; rfl, h.lv, h.e.grown h3 (own_ge h.k)⟩
  · exact (TwoR.swap h).a
  · rcases h4 with c | c
    · rw [c]; exact h.a
    · right
      rw [c]
      intro d
      have := (hv _ d.symm).2
      omega

set_option maxHeartbeats 2000000 in
set_option maxRecDepth 100000 in
theorem pairs_any (sl : Option Addr) (n c : Nat) (l : List Rs) (w : World) (hl : RS w sl n c l) :
    Calls Try.prog 89 #[.slice sl n c] w fun e w' => ∃ k v : Sl, e = .returned (.tuple #[.slice k.a k.n k.c, .slice v.a v.n v.c]) ∧ RS w' k.a k.n k.c (evR l) ∧ RS w' v.a v.n v.c (odR l) ∧ Ext w w' := by
  have hn := hl.le
  have HR := Lib.hid hl
  clear hl
  go_enter Try.func89, Try.ntmps89
  go_wp2_with (fail)
  go_loopg [2, 3, 8] n (fun kx s2 s3 s8 wr => ∃ (i : Nat) (ka : Option Addr) (kn kc : Nat) (va : Option Addr) (vn vc : Nat), s8 = .int .i64 i ∧ s2 = .slice ka kn kc ∧ s3 = .slice va vn vc ∧ i ≤ n ∧ n - i ≤ kx ∧ RowKit.Hid (TwoR w wr ka kn kc va vn vc (evR (l.take i)) (odR (l.take i))))
  case atStart => exact ⟨0, none, 0, 0, none, 0, 0, rfl, rfl, rfl, Nat.zero_le _, by omega, Lib.hid ⟨World.ownsRow_nil _ _ _ _, World.ownsRow_nil _ _ _ _, .inl rfl, rfl, rfl, Ext.refl _⟩⟩
  case round =>
    obtain ⟨i, ka, kn, kc, va, vn, vc, rfl, rfl, rfl, hi, hg, D⟩ := hrel
    by_cases hlt : i < n
    · have hlt2 : (i : Int) < n := by omega
      obtain ⟨⟨e, v⟩, hy, hyu, b, o, rfl, hyc, hyd⟩ := HR.out.get hlt
      have cm := D.out.e.cell hyc
      have cd := D.out.e.cell hyd
      dsimp only at cm cd
      have hti : (l.take i).length = i := by rw [List.length_take, HR.out.len]; omega
      have hsn := take_snoc hy
      have hRS := Lib.hid (RS.lit (wr.alloc (.cells #[.int .i64 e, .int .u64 v] 41)) (e, v) hyu)
      simp only [World.size_alloc] at hRS
      have hD := D.out
      have lk1 := hD.lk
      have lv1 := hD.lv
      rw [evR_len, hti] at lk1
      rw [odR_len, hti] at lv1
      clear hyc hyd hyu hy
      by_cases hp : i % 2 = 0
      · have hp2 : ((i : Int) % 2 == 0) = true := beq_iff_eq.2 (by omega)
        have e1 : RowKit.Hid (evR (l.take (i + 1)) = evR (l.take i) ++ [(e, v)]) := Lib.hid (by rw [hsn, evR_snoc, hti, if_pos hp])
        have e2 : RowKit.Hid (odR (l.take (i + 1)) = odR (l.take i)) := Lib.hid (by rw [hsn, odR_snoc, hti, if_pos hp])
        obtain ⟨sx, cx, wx, RX, DX⟩ := ((hD.alloc (.cells #[.int .i64 e, .int .u64 v] 41)).alloc (.cells #[.int .i64 e, .int .u64 v] 41)).add hRS.out (by omega)
        replace DX := Lib.hid DX
        clear hD hsn hti lk1 lv1 hp
        go_wp2_with (first | (at_builtin; refine Lib.wpList_append_run _ rfl (.tmp 16) (.tmp 18) _ _ rfl _ _ rfl rfl _ _ RX.out ?_))
        go_roundg (n - (i + 1))
        case measure => omega
        case rel => exact ⟨i + 1, sx, kn + 1, cx, va, vn, vc, by first | rfl | (congr 1; omega), rfl, rfl, by omega, by omega, Lib.hid (by rw [e1.out, e2.out]; exact DX.out)⟩
      · have hp2 : ((i : Int) % 2 == 0) = false := beq_eq_false_iff_ne.2 (by omega)
        have e1 : RowKit.Hid (evR (l.take (i + 1)) = evR (l.take i)) := Lib.hid (by rw [hsn, evR_snoc, hti, if_neg hp])
        have e2 : RowKit.Hid (odR (l.take (i + 1)) = odR (l.take i) ++ [(e, v)]) := Lib.hid (by rw [hsn, odR_snoc, hti, if_neg hp])
        obtain ⟨sx, cx, wx, RX, DX⟩ := ((hD.swap.alloc (.cells #[.int .i64 e, .int .u64 v] 41)).alloc (.cells #[.int .i64 e, .int .u64 v] 41)).add hRS.out (by omega)
        replace DX := Lib.hid DX
        clear hD hsn hti lk1 lv1 hp
        go_wp2_with (first | (at_builtin; refine Lib.wpList_append_run _ rfl (.tmp 20) (.tmp 22) _ _ rfl _ _ rfl rfl _ _ RX.out ?_))
        go_roundg (n - (i + 1))
        case measure => omega
        case rel => exact ⟨i + 1, ka, kn, kc, sx, vn + 1, cx, by first | rfl | (congr 1; omega), rfl, rfl, by omega, by omega, Lib.hid (by rw [e1.out, e2.out]; exact DX.out.swap)⟩
    · obtain rfl : i = n := by omega
      have hlt2 : ¬ (i : Int) < i := by omega
      have ht : l.take i = l := by rw [← HR.out.len]; exact List.take_length
      have hf : RowKit.Hid (RS wr ka kn kc (evR l) ∧ RS wr va vn vc (odR l) ∧ Ext w wr) := Lib.hid (by
        have h := D.out
        rw [ht] at h
        have l1 := h.lk
        have l2 := h.lv
        have l3 := HR.out.len
        refine ⟨RS.of_own h.k h.lk (by rw [← l1, evR_len]; omega) (fun y hy => HR.out.range y (evR_mem hy)), RS.of_own h.v h.lv (by rw [← l2, odR_len]; omega) (fun y hy => HR.out.range y (odR_mem hy)), h.e⟩)
      clear D HR ht
      go_wp2_with (fail)
      go_ret2
      exact ⟨⟨ka, kn, kc⟩, ⟨va, vn, vc⟩, rfl, hf.out⟩

end Go.Proofs.Ytojdhnecafkibaa.Lan

/- LanProbe:
  ask of a set and of a table, and Probe. Conditions: what was told are answers, at most so many.
-/
namespace Go.Proofs.Ytojdhnecafkibaa.Lan
open Go.RowKit (Below intOf)
open Go.Proofs.Ytojdhnecafkibaa.Aut
open Go.Proofs.Ytojdhnecafkibaa.Reg (cf bx fits_any)

/-- Op boxes that may be written. -/
theorem op_facts {w W : World} {o : Obj} (h : Ext ((w.alloc o).alloc (ob 0 0 0)) W) : (W.cell? ⟨w.heap.size + 1, 0, none⟩ = some (.int .i64 0) ∧ W.cell? ⟨w.heap.size + 1, 1, none⟩ = some (.int .u64 0) ∧ W.cell? ⟨w.heap.size + 1, 2, none⟩ = some (.int .u64 0)) ∧
    W.frozen? ⟨w.heap.size + 1, 0, none⟩ = false ∧ W.frozen? ⟨w.heap.size + 1, 1, none⟩ = false ∧ W.frozen? ⟨w.heap.size + 1, 2, none⟩ = false := by
  obtain ⟨r0, r1, r2, rf⟩ := res_new o w
  exact ⟨⟨h.cell r0, h.cell r1, h.cell r2⟩, (h.frozen r0).trans (rf 0), (h.frozen r1).trans (rf 1), (h.frozen r2).trans (rf 2)⟩

set_option maxHeartbeats 1000000 in
set_option maxRecDepth 100000 in
theorem set_ask {k : Int} {T : TypeId} {fk fr fl : Nat} (I : KI k T fk fr fl) (m : Int) (sl : Option Addr) (n c : Nat) (l : List Rs) (w : World) (hl : RS w sl n c l) :
    Calls Try.prog 59 #[kd T m, .slice sl n c] w (AE (onwardS k l) w) := by
  have X0 := Lib.hid ((Ext.new w (kbt 79 T m)).alloc (ob 0 0 0))
  have HN := Lib.hid (onward_any I m sl n c l _ (hl.ext X0.out))
  have OF : RowKit.Hid (∀ W, _) := Lib.hid fun W => @op_facts w W (kbt 79 T m)
  have k0 : ((w.alloc (kbt 79 T m)).alloc (ob 0 0 0)).cell? ⟨w.heap.size, 0, none⟩ = some (.iface T kE) := box_alloc (by unfold World.cell?; rw [World.alloc_heap_new]; rfl)
  have k1 : ((w.alloc (kbt 79 T m)).alloc (ob 0 0 0)).cell? ⟨w.heap.size, 1, none⟩ = some (.int .i64 m) := box_alloc (by unfold World.cell?; rw [World.alloc_heap_new]; rfl)
  generalize onwardS k l = r at *
  obtain ⟨⟨rc, rk, rv'⟩, rm⟩ := r
  clear hl I
  dsimp only [AE, kd, kb, kbt, ob, ov, opv] at *
  go_enter Try.func59, Try.ntmps59
  go_wp2_with (first | (go_at_call 63; (with_reducible refine HN.out.mono ?_); rintro e w1 ⟨rfl, hE⟩; obtain ⟨⟨g0, g1, g2⟩, z0, z1, z2⟩ := OF.out w1 hE; have X1 : RowKit.Hid (Ext w w1) := Lib.hid (X0.out.trans hE); clear hE OF HN X0))
  refine bodyPost_ret (v := .tuple #[ov rc rk rv', .bool rm]) (by simp [results, Try.results59, go_sem, g0, g1, g2]) rfl ?_
  exact ⟨rfl, by repeat (first | exact X1.out | refine Ext.setCell ?_ (by simp) _)⟩

set_option maxHeartbeats 2000000 in
set_option maxRecDepth 100000 in
theorem table_ask {k : Int} {T : TypeId} {fk fr fl : Nat} (I : KI k T fk fr fl) (m : Int) (sl : Option Addr) (n c : Nat) (l : List Rs) (w : World) (hl : RS w sl n c l) :
    Calls Try.prog 85 #[kd T m, .slice sl n c] w (AE (askT k l) w) := by
  have X0 := Lib.hid ((Ext.new w (kbt 80 T m)).alloc (ob 0 0 0))
  have HP := Lib.hid (pairs_any sl n c l _ (hl.ext X0.out))
  have OF : RowKit.Hid (∀ W, _) := Lib.hid fun W => @op_facts w W (kbt 80 T m)
  have k0 : ((w.alloc (kbt 80 T m)).alloc (ob 0 0 0)).cell? ⟨w.heap.size, 0, none⟩ = some (.iface T kE) := box_alloc (by unfold World.cell?; rw [World.alloc_heap_new]; rfl)
  have k1 : ((w.alloc (kbt 80 T m)).alloc (ob 0 0 0)).cell? ⟨w.heap.size, 1, none⟩ = some (.int .i64 m) := box_alloc (by unfold World.cell?; rw [World.alloc_heap_new]; rfl)
  have HO : RowKit.Hid (∀ sl n c W, RS W sl n c (evR l) → Calls Try.prog 63 #[kd T m, .slice sl n c] W (AE (onwardS k (evR l)) W)) := Lib.hid fun sl n c W h => onward_any I m sl n c (evR l) W h
  unfold askT
  generalize onwardS k (evR l) = r at *
  obtain ⟨⟨rc, rk, rv'⟩, rm⟩ := r
  clear hl I
  dsimp only [AE, kd, kb, kbt, ob, ov, opv] at *
  cases rm
  · rw [if_neg (by simp)]
    go_enter Try.func85, Try.ntmps85
    go_wp2_with (first
      | (go_at_call 89; (with_reducible refine HP.out.mono ?_); rintro e w1 ⟨⟨ka, kn, kc⟩, ⟨va, vn, vc⟩, rfl, hk, hv, hE1⟩; replace k0 := hE1.cell k0; replace k1 := hE1.cell k1; have HC := Lib.hid (HO.out _ _ _ _ hk); have hkl := Lib.hid hk.len; have hvl := Lib.hid hv.len; have hkb := hk.le; have hvb := hv.le; clear hk hv HO HP)
      | (go_at_call 63; (with_reducible refine HC.out.mono ?_); rintro e w2 ⟨rfl, hE⟩; obtain ⟨⟨g0, g1, g2⟩, z0, z1, z2⟩ := OF.out w2 (hE1.trans hE); have X1 : RowKit.Hid (Ext w w2) := Lib.hid (X0.out.trans (hE1.trans hE)); have y0 := box_alloc (x := .cells #[.int .i64 rc, .int .u64 rk, .int .u64 rv'] 39) g0; have y1 := box_alloc (x := .cells #[.int .i64 rc, .int .u64 rk, .int .u64 rv'] 39) g1; have y2 := box_alloc (x := .cells #[.int .i64 rc, .int .u64 rk, .int .u64 rv'] 39) g2; have q0 := fro_alloc (x := .cells #[.int .i64 rc, .int .u64 rk, .int .u64 rv'] 39) g0 z0; have q1 := fro_alloc (x := .cells #[.int .i64 rc, .int .u64 rk, .int .u64 rv'] 39) g1 z1; have q2 := fro_alloc (x := .cells #[.int .i64 rc, .int .u64 rk, .int .u64 rv'] 39) g2 z2; clear hE hE1 OF HC X0 k0 k1))
    refine bodyPost_ret (v := .tuple #[ov rc rk rv', .bool false]) (by simp [results, Try.results85, go_sem, y0, y1, y2]) rfl ?_
    exact ⟨rfl, by repeat (first | exact X1.out | refine Ext.alloc ?_ _ | refine Ext.setCell ?_ (by simp) _)⟩
  · by_cases hlt : (odR l).length < (evR l).length
    · rw [if_pos ⟨rfl, hlt⟩]
      have HLt := Lib.hid hlt
      clear hlt
      go_enter Try.func85, Try.ntmps85
      go_wp2_with (first
      | (go_at_call 89; (with_reducible refine HP.out.mono ?_); rintro e w1 ⟨⟨ka, kn, kc⟩, ⟨va, vn, vc⟩, rfl, hk, hv, hE1⟩; replace k0 := hE1.cell k0; replace k1 := hE1.cell k1; have HC := Lib.hid (HO.out _ _ _ _ hk); have hkl := Lib.hid hk.len; have hvl := Lib.hid hv.len; have hkb := hk.le; have hvb := hv.le; have hq : (vn : Int) < kn := (by have h1 := HLt.out; rw [hk.len, hv.len] at h1; dsimp only at h1; omega); clear hk hv HO HP)
      | (go_at_call 63; (with_reducible refine HC.out.mono ?_); rintro e w2 ⟨rfl, hE⟩; obtain ⟨⟨g0, g1, g2⟩, z0, z1, z2⟩ := OF.out w2 (hE1.trans hE); have X1 : RowKit.Hid (Ext w w2) := Lib.hid (X0.out.trans (hE1.trans hE)); have y0 := box_alloc (x := .cells #[.int .i64 rc, .int .u64 rk, .int .u64 rv'] 39) g0; have y1 := box_alloc (x := .cells #[.int .i64 rc, .int .u64 rk, .int .u64 rv'] 39) g1; have y2 := box_alloc (x := .cells #[.int .i64 rc, .int .u64 rk, .int .u64 rv'] 39) g2; have q0 := fro_alloc (x := .cells #[.int .i64 rc, .int .u64 rk, .int .u64 rv'] 39) g0 z0; have q1 := fro_alloc (x := .cells #[.int .i64 rc, .int .u64 rk, .int .u64 rv'] 39) g1 z1; have q2 := fro_alloc (x := .cells #[.int .i64 rc, .int .u64 rk, .int .u64 rv'] 39) g2 z2; clear hE hE1 OF HC X0 k0 k1))
      refine bodyPost_ret (v := .tuple #[ov 10 rk 0, .bool true]) (by simp [results, Try.results85, go_sem, y0, y1, y2]) rfl ?_
      exact ⟨rfl, by repeat (first | exact X1.out | refine Ext.alloc ?_ _ | refine Ext.setCell ?_ (by simp) _)⟩
    · rw [if_neg (fun c => hlt c.2)]
      have HLt := Lib.hid hlt
      clear hlt
      go_enter Try.func85, Try.ntmps85
      go_wp2_with (first
      | (go_at_call 89; (with_reducible refine HP.out.mono ?_); rintro e w1 ⟨⟨ka, kn, kc⟩, ⟨va, vn, vc⟩, rfl, hk, hv, hE1⟩; replace k0 := hE1.cell k0; replace k1 := hE1.cell k1; have HC := Lib.hid (HO.out _ _ _ _ hk); have hkl := Lib.hid hk.len; have hvl := Lib.hid hv.len; have hkb := hk.le; have hvb := hv.le; have hq : ¬ (vn : Int) < kn := (by have h1 := HLt.out; rw [hk.len, hv.len] at h1; dsimp only at h1; omega); clear hk hv HO HP)
      | (go_at_call 63; (with_reducible refine HC.out.mono ?_); rintro e w2 ⟨rfl, hE⟩; obtain ⟨⟨g0, g1, g2⟩, z0, z1, z2⟩ := OF.out w2 (hE1.trans hE); have X1 : RowKit.Hid (Ext w w2) := Lib.hid (X0.out.trans (hE1.trans hE)); have y0 := box_alloc (x := .cells #[.int .i64 rc, .int .u64 rk, .int .u64 rv'] 39) g0; have y1 := box_alloc (x := .cells #[.int .i64 rc, .int .u64 rk, .int .u64 rv'] 39) g1; have y2 := box_alloc (x := .cells #[.int .i64 rc, .int .u64 rk, .int .u64 rv'] 39) g2; have q0 := fro_alloc (x := .cells #[.int .i64 rc, .int .u64 rk, .int .u64 rv'] 39) g0 z0; have q1 := fro_alloc (x := .cells #[.int .i64 rc, .int .u64 rk, .int .u64 rv'] 39) g1 z1; have q2 := fro_alloc (x := .cells #[.int .i64 rc, .int .u64 rk, .int .u64 rv'] 39) g2 z2; clear hE hE1 OF HC X0 k0 k1))
      refine bodyPost_ret (v := .tuple #[ov rc rk rv', .bool true]) (by simp [results, Try.results85, go_sem, y0, y1, y2]) rfl ?_
      exact ⟨rfl, by repeat (first | exact X1.out | refine Ext.alloc ?_ _ | refine Ext.setCell ?_ (by simp) _)⟩

/-- How an object is asked for the read-out's next call. -/
def AsI (k p m : Int) (T : TypeId) (V : Value) (f : Nat) (V' : Value) : Prop :=
  (∀ w, Sem.run Try.prog (method 237 T V "whitewash/auto.ask") w = .ok (f, V') w) ∧ (∀ a w, Sem.run Try.prog (callFunc f #[V', a]) w = .ok (.enter f #[V', a]) w) ∧
    ∀ sl n c l w, RS w sl n c l → Calls Try.prog f #[V', .slice sl n c] w (AE (probeS k p m l) w)
theorem as_obj {k p m : Int} (hf : fits k p m = true) : ∃ f V', AsI k p m (oT k) (oV k m) f V' := by
  have hb := fits_of hf
  have hff : ¬ fits k p m = false := by rw [hf]; simp
  have pk : ∀ l, keyed k = true → probeS k p m l = probedS k l := fun l h => by unfold probeS; rw [if_neg hff, if_pos h]
  rcases kinds hf with rfl | rfl | rfl | rfl | rfl
  · refine ⟨42, kE, fun w => by kernel_rfl, fun a w => by kernel_rfl, fun sl n c l w hl => ?_⟩
    have : probeS 1 p m l = if 0 < l.length then (zeroC, false) else (⟨1, 0, 0⟩, true) := by unfold probeS; rw [if_neg hff, if_neg (by decide), if_pos rfl]
    rw [this]; exact reg_ask sl n c l w hl
  · obtain ⟨fk, fr, fl, I⟩ := keys_is 2
    exact ⟨59, kd (kT 2) m, fun w => by kernel_rfl, fun a w => by kernel_rfl, fun sl n c l w hl => by rw [pk l rfl, ← ask_set rfl]; exact set_ask I m sl n c l w hl⟩
  · obtain ⟨fk, fr, fl, I⟩ := keys_is 3
    exact ⟨85, kd (kT 3) m, fun w => by kernel_rfl, fun a w => by kernel_rfl, fun sl n c l w hl => by rw [pk l rfl, ← ask_table rfl]; exact table_ask I m sl n c l w hl⟩
  · obtain ⟨fk, fr, fl, I⟩ := keys_is 4
    exact ⟨85, kd (kT 4) m, fun w => by kernel_rfl, fun a w => by kernel_rfl, fun sl n c l w hl => by rw [pk l rfl, ← ask_table rfl]; exact table_ask I m sl n c l w hl⟩
  · refine ⟨94, .agg #[.int .i64 m], fun w => by kernel_rfl, fun a w => by kernel_rfl, fun sl n c l w hl => ?_⟩
    have : probeS 5 p m l = if l.length = 0 then (⟨16, 0, 0⟩, true) else if l.length ≤ 8 then (⟨14, (l.length : Int), 0⟩, true) else if (l.length : Int) ≤ 8 + m then (⟨15, (l.length : Int) - 9, 0⟩, true) else (zeroC, false) := by unfold probeS; rw [if_neg hff, if_neg (by decide), if_neg (by decide)]
    rw [this]; exact ballot_ask m ⟨hb.2.2.2.2.1, hb.2.2.2.2.2⟩ sl n c l w hl

set_option maxHeartbeats 1000000 in
set_option maxRecDepth 100000 in
theorem probe_any (k p m : Int) (sl : Option Addr) (n c : Nat) (l : List Rs) (w : World) (hl : RS w sl n c l) : Calls Try.prog 10 #[cf k p m, .slice sl n c] w (AE (probeS k p m l) w) := by
  have X0 := Lib.hid ((Ext.new w (bx k p m)).alloc (ob 0 0 0))
  have hF := Lib.hid (fun w => fits_any k p m w)
  have OF : RowKit.Hid (∀ W, _) := Lib.hid fun W => @op_facts w W (bx k p m)
  by_cases hf : fits k p m = true
  · obtain ⟨f, V', m1, m2, m3⟩ := as_obj hf
    have hf' : Reg.fits k p m = true := hf
    rw [hf'] at hF
    have HO := Lib.hid (fun W => object_any k p m W)
    have M3 : RowKit.Hid (∀ W, Ext w W → Calls Try.prog f #[V', .slice sl n c] W (AE (probeS k p m l) W)) := Lib.hid fun W hE => m3 sl n c l W (hl.ext hE)
    generalize probeS k p m l = r at *
    obtain ⟨⟨rc, rk, rv'⟩, rm⟩ := r
    generalize oT k = OT at *
    generalize oV k m = OV at *
    clear hf hf' m3 hl
    dsimp only [cf, bx, AE, ob, ov, opv] at *
    go_enter Try.func10, Try.ntmps10
    go_wp2_with (first
      | (go_at_call 15; (with_reducible refine (hF.out _).mono ?_); rintro e w' ⟨rfl, rfl⟩)
      | (go_at_call 16; (with_reducible refine (HO.out _).mono ?_); rintro e w' ⟨rfl, rfl⟩)
      | (go_at_fn f; (with_reducible refine (M3.out _ (by repeat (first | exact X0.out | refine Ext.alloc ?_ _))).mono ?_); rintro e w1 ⟨rfl, hE⟩; obtain ⟨⟨g0, g1, g2⟩, z0, z1, z2⟩ := OF.out w1 (Ext.trans (by repeat (first | exact Ext.refl _ | refine Ext.alloc ?_ _)) hE); have X1 : RowKit.Hid (Ext w w1) := Lib.hid (Ext.trans (by repeat (first | exact X0.out | refine Ext.alloc ?_ _)) hE); clear hE OF))
    refine bodyPost_ret (v := .tuple #[ov rc rk rv', .bool rm]) (by simp [results, Try.results10, go_sem, g0, g1, g2]) rfl ?_
    exact ⟨rfl, by repeat (first | exact X1.out | refine Ext.setCell ?_ (by simp) _)⟩
  · have hf' : Reg.fits k p m = false := Bool.eq_false_iff.2 hf
    rw [hf'] at hF
    have hN : RowKit.Hid (probeS k p m l = (zeroC, false)) := Lib.hid (by unfold probeS; rw [if_pos (Bool.eq_false_iff.2 hf)])
    clear hf hf' hl OF
    dsimp only [cf, bx, ob] at *
    go_enter Try.func10, Try.ntmps10
    go_wp2_with (first
      | (go_at_call 15; (with_reducible refine (hF.out _).mono ?_); rintro e w' ⟨rfl, rfl⟩))
    refine bodyPost_ret (v := .tuple #[ov 0 0 0, .bool false]) (by simp [results, Try.results10, go_sem]) rfl ?_
    rw [hN.out]
    exact ⟨rfl, by repeat (first | exact X0.out | refine Ext.alloc ?_ _ | refine Ext.setCell ?_ (by simp) _)⟩

end Go.Proofs.Ytojdhnecafkibaa.Lan

/- LanBox:
  A state in a box that a call may write, what a call keeps, and answer: what a call tells, a refusal too. Conditions: the called method's own contract.
-/
namespace Go.Proofs.Ytojdhnecafkibaa.Lan
open Go.RowKit (Below intOf)
open Go.Proofs.Ytojdhnecafkibaa.Aut
open Go.Proofs.Ytojdhnecafkibaa.Reg (cf bx fits_any)

/-- What lay ahead of all, and what lies from M on, is kept. -/
def Kp (W : World) (M : Nat) (w w' : World) : Prop := Ext W w' ∧ w.heap.size ≤ w'.heap.size ∧ ∀ b, M ≤ b → b < w.heap.size → w'.heap[b]? = w.heap[b]?
theorem Kp.refl {W w : World} {M : Nat} (h : Ext W w) : Kp W M w w := ⟨h, Nat.le_refl _, fun _ _ _ => rfl⟩
theorem Kp.ext {W w w1 w2 : World} {M : Nat} (h : Kp W M w w1) (e : Ext w1 w2) : Kp W M w w2 :=
  ⟨h.1.trans e, Nat.le_trans h.2.1 e.size, fun b h1 h2 => (e.block b (Nat.lt_of_lt_of_le h2 h.2.1)).trans (h.2.2 b h1 h2)⟩
theorem Kp.from {W w0 w w1 : World} {M : Nat} (h : Kp W M w w1) (e : Ext w0 w) : Kp W M w0 w1 :=
  ⟨h.1, Nat.le_trans e.size h.2.1, fun b h1 h2 => (h.2.2 b h1 (Nat.lt_of_lt_of_le h2 e.size)).trans (e.block b h2)⟩
theorem Kp.trans {W w w1 w2 : World} {M : Nat} (h : Kp W M w w1) (k : Kp W M w1 w2) : Kp W M w w2 :=
  ⟨k.1, Nat.le_trans h.2.1 k.2.1, fun b h1 h2 => (k.2.2 b h1 (Nat.lt_of_lt_of_le h2 h.2.1)).trans (h.2.2 b h1 h2)⟩
theorem heap_set (w : World) (B i : Nat) (v : Value) {b : Nat} (h : b ≠ B) : (w.setCell ⟨B, i, none⟩ v).heap[b]? = w.heap[b]? := by
  unfold World.setCell
  split <;> (simp only [Array.getElem?_modify]; rw [if_neg (Ne.symm h)])
theorem Kp.setCell {W w w1 : World} {M : Nat} (h : Kp W M w w1) {B i : Nat} (v : Value) (hB : W.heap.size ≤ B) (hM : B < M ∨ w.heap.size ≤ B) : Kp W M w (w1.setCell ⟨B, i, none⟩ v) :=
  ⟨h.1.setCell hB v, by rw [World.size_setCell]; exact h.2.1, fun b h1 h2 => (heap_set w1 B i v (by omega)).trans (h.2.2 b h1 h2)⟩
theorem Kp.cell {W w w1 : World} {M b o : Nat} {v : Value} (h : Kp W M w w1) (hb : M ≤ b) (hc : w.cell? ⟨b, o, none⟩ = some v) : w1.cell? ⟨b, o, none⟩ = some v := by
  have hl := World.block_lt_of_cell? w _ hc
  have := h.2.2 b hb hl
  unfold World.cell? at *
  simp only at *
  rw [this]; exact hc
theorem Kp.frozen {W w w1 : World} {M b o : Nat} {v : Value} (h : Kp W M w w1) (hb : M ≤ b) (hc : w.cell? ⟨b, o, none⟩ = some v) : w1.frozen? ⟨b, o, none⟩ = w.frozen? ⟨b, o, none⟩ := by
  have hl := World.block_lt_of_cell? w _ hc
  have := h.2.2 b hb hl
  unfold World.frozen?
  simp only at *
  rw [this]
theorem Kp.grown {W w w1 w2 : World} {M : Nat} (h : Kp W M w w1) {row : Option Nat} (g : w1.grownBy w2 row) (hr : ∀ k, row = some k → W.heap.size ≤ k ∧ (k < M ∨ w.heap.size ≤ k)) : Kp W M w w2 :=
  ⟨h.1.grown g (fun k e => (hr k e).1), Nat.le_trans h.2.1 g.size, fun b h1 h2 => (g.block b (Nat.lt_of_lt_of_le h2 h.2.1) (fun e => by have := (hr b e.symm).2; omega)).trans (h.2.2 b h1 h2)⟩

/-- A state in a box. -/
structure PB (W : World) (M : Nat) (w : World) (B : Nat) (s : St) (a v t : Sl) : Prop where
  e : Ext W w
  five : Five w B s.reg a v t s.closed
  ss : SS w a v t s
  off : ∀ b, (b < W.heap.size ∨ M ≤ b) → OffS a v t b
  hB : W.heap.size ≤ B
  hM : B < M
  hw : M ≤ w.heap.size
  fro : ∀ i, w.frozen? ⟨B, i, none⟩ = false
  offB : OffS a v t B
theorem PB.ext {W : World} {M : Nat} {w w' : World} {B : Nat} {s : St} {a v t : Sl} (h : PB W M w B s a v t) (e : Ext w w') : PB W M w' B s a v t :=
  ⟨h.e.trans e, h.five.ext e, h.ss.ext e, h.off, h.hB, h.hM, Nat.le_trans h.hw e.size, fun i => (Below.frozen (p := ⟨B, i, none⟩) e (Nat.lt_of_lt_of_le h.hM h.hw)).trans (h.fro i), h.offB⟩
/-- What a call leaves in it. -/
def QB (W : World) (M : Nat) (w w' : World) (B : Nat) (s : St) : Prop := Kp W M w w' ∧ ∃ a v t, Five w' B s.reg a v t s.closed ∧ SS w' a v t s ∧ ∀ b, (b < W.heap.size ∨ M ≤ b) → b < w.heap.size → OffS a v t b
theorem PB.read {W : World} {M : Nat} {w w' : World} {B : Nat} {s : St} {a v t : Sl} (h : PB W M w B s a v t) (e : Ext w w') : QB W M w w' B s :=
  ⟨(Kp.refl h.e).ext e, a, v, t, h.five.ext e, h.ss.ext e, fun b hb _ => h.off b hb⟩
theorem QB.ext {W : World} {M : Nat} {w w1 w2 : World} {B : Nat} {s : St} (h : QB W M w w1 B s) (e : Ext w1 w2) : QB W M w w2 B s := by
  obtain ⟨h1, a, v, t, h2, h3, h4⟩ := h
  exact ⟨h1.ext e, a, v, t, h2.ext e, h3.ext e, h4⟩
theorem QB.from {W : World} {M : Nat} {w0 w w1 : World} {B : Nat} {s : St} (h : QB W M w w1 B s) (e : Ext w0 w) : QB W M w0 w1 B s := by
  obtain ⟨h1, a, v, t, h2, h3, h4⟩ := h
  exact ⟨h1.from e, a, v, t, h2, h3, fun b hb hl => h4 b hb (Nat.lt_of_lt_of_le hl e.size)⟩
theorem five_far {w : World} {b B i : Nat} {r : Int} {k v t : Sl} {cl : Bool} {x : Value} (h : Five w b r k v t cl) (hne : b ≠ B) : Five (w.setCell ⟨B, i, none⟩ x) b r k v t cl :=
  ⟨(cell_far hne).trans h.1, (cell_far hne).trans h.2.1, (cell_far hne).trans h.2.2.1, (cell_far hne).trans h.2.2.2.1, (cell_far hne).trans h.2.2.2.2⟩
/-- A store into a box that was laid ahead of the call, from M on. -/
theorem QB.far {W : World} {M : Nat} {w0 w w1 : World} {B N i : Nat} {s : St} {x : Value} (h : QB W M w w1 B s) (e : Ext w0 w) (hw : w0.heap.size ≤ N) (hN : N < w.heap.size) (hM : M ≤ w0.heap.size) (hB : B < M) (hW : W.heap.size ≤ w0.heap.size) : QB W M w0 (w1.setCell ⟨N, i, none⟩ x) B s := by
  obtain ⟨h1, a, v, t, h2, h3, h4⟩ := h
  exact ⟨(h1.from e).setCell x (by omega) (.inr hw), a, v, t, five_far h2 (by omega), h3.set (h4 N (by omega) hN) i x, fun b hb hl => h4 b hb (Nat.lt_of_lt_of_le hl e.size)⟩

theorem assertE (x : Int) (w : World) : (Instr.typeAssert (.iface 32 (.int .i64 x)) 20 32 false).run Try.prog w = .ok (.int .i64 x) w := by kernel_rfl

abbrev rb0 : Obj := .cells #[.int .i64 0, .int .u64 0] 41
set_option maxRecDepth 100000 in
theorem catch_no (x : Int) (N : Nat) (e v : Int) (w : World) (h0 : w.cell? ⟨N, 0, none⟩ = some (.int .i64 e)) (h1 : w.cell? ⟨N, 1, none⟩ = some (.int .u64 v)) (z0 : w.frozen? ⟨N, 0, none⟩ = false) (z1 : w.frozen? ⟨N, 1, none⟩ = false) :
    CallsD Try.prog 26 #[.pointer (some ⟨N, 0, none⟩)] (.panicking (noE x)) w fun e u' w' =>
      e = .returned (.tuple #[]) ∧ u' = .panicking [{ v := .iface 32 (.int .i64 x), recovered := true }] ∧ w' = (w.setCell ⟨N, 0, none⟩ (.int .i64 x)).setCell ⟨N, 1, none⟩ (.int .u64 0) := by
  refine callsD_of_wpS Try.func26 rfl fun c₀ cs hu => ?_
  apply wpS_seq
  apply wpS_region
  simp [wpOpsS, go_sem, recoverD, hu, Try.ntmps26, Exit.thenS, noE]
  apply wpS_seq
  apply wpS_region
  simp [wpOpsS, go_sem, Exit.thenS]
  refine wpS_cond (t := true) (by simp [Act.eval, Array.replicate]) ?_
  simp only [if_true]
  apply wpS_region
  simp [wpOpsS, go_sem, assertE, h0, h1, z0, z1, bodyPostS, results, Try.results26]

set_option maxRecDepth 100000 in
theorem catch_idle (p : Addr) (w : World) :
    CallsD Try.prog 26 #[.pointer (some p)] .returning w fun e u' w' => e = .returned (.tuple #[]) ∧ u' = .returning ∧ w' = w := by
  refine callsD_of_wpS Try.func26 rfl fun c₀ cs hu => ?_
  apply wpS_seq
  apply wpS_region
  simp [wpOpsS, go_sem, recoverD, hu, Try.ntmps26, Exit.thenS]
  apply wpS_seq
  apply wpS_region
  simp [wpOpsS, go_sem, Exit.thenS]
  refine wpS_cond (t := false) (by simp [Act.eval, Array.replicate]) ?_
  simp only [Bool.false_eq_true, if_false]
  refine wpS_of_wp (wp_skip ?_)
  cases c₀
  simp_all [bodyPostS, results, Try.results26]

theorem ans_new (o : Obj) (w : World) : (((w.alloc o).alloc rb0).cell? ⟨w.heap.size + 1, 0, none⟩ = some (.int .i64 0) ∧ ((w.alloc o).alloc rb0).cell? ⟨w.heap.size + 1, 1, none⟩ = some (.int .u64 0)) ∧ ((w.alloc o).alloc rb0).frozen? ⟨w.heap.size + 1, 0, none⟩ = false ∧ ((w.alloc o).alloc rb0).frozen? ⟨w.heap.size + 1, 1, none⟩ = false := by
  have hs : (w.alloc o).heap.size = w.heap.size + 1 := by simp
  refine ⟨⟨?_, ?_⟩, ?_, ?_⟩ <;> rw [← hs]
  · unfold World.cell?; rw [World.alloc_heap_new]; rfl
  · unfold World.cell?; rw [World.alloc_heap_new]; rfl
  · unfold World.frozen?; rw [World.alloc_heap_new]; rfl
  · unfold World.frozen?; rw [World.alloc_heap_new]; rfl

set_option maxHeartbeats 1000000 in
set_option maxRecDepth 100000 in
theorem answer_any (T : TypeId) (V V' : Value) (f B : Nat) (oc ok ov' : Int) (r : Rs) (W : World) (M : Nat) (w : World) (s : St)
    (mc : ∀ w, Sem.run Try.prog (method 237 T V "whitewash/auto.call") w = .ok (f, V') w) (ec : ∀ a b w, Sem.run Try.prog (callFunc f #[V', a, b]) w = .ok (.enter f #[V', a, b]) w)
    (hM : M ≤ w.heap.size) (hB : B < M) (hW : Ext W w)
    (HC : Calls Try.prog f #[V', .pointer (some ⟨B, 0, none⟩), ov oc ok ov'] ((w.alloc (ob oc ok ov')).alloc rb0) fun e w' => TE r e ∧ QB W M ((w.alloc (ob oc ok ov')).alloc rb0) w' B s) :
    Calls Try.prog 19 #[.iface T V, .pointer (some ⟨B, 0, none⟩), ov oc ok ov'] w fun e w' => e = .returned (rv r.1 r.2) ∧ QB W M w w' B s := by
  have hmf : ∀ (fn : Fn) (first cap : Array Value) (w : World), (Instr.makeFunc fn first cap).run Try.prog w = .ok (.func fn first cap) w := fun _ _ _ _ => rfl
  have X0 := Lib.hid ((Ext.new w (ob oc ok ov')).alloc rb0)
  obtain ⟨⟨a0, a1⟩, b0, b1⟩ := ans_new (ob oc ok ov') w
  have A0 := Lib.hid a0
  have A1 := Lib.hid a1
  have B0 := Lib.hid b0
  have B1 := Lib.hid b1
  have FAR : RowKit.Hid (∀ w1 x y, QB W M ((w.alloc (ob oc ok ov')).alloc rb0) w1 B s → QB W M w ((w1.setCell ⟨w.heap.size + 1, 0, none⟩ x).setCell ⟨w.heap.size + 1, 1, none⟩ y) B s) := Lib.hid fun w1 x y h => by
    obtain ⟨h1, a, v, t, h2, h3, h4⟩ := h
    have hs := hW.size
    have hN := h4 (w.heap.size + 1) (by omega) (by simp)
    exact ⟨((h1.from X0.out).setCell x (by omega) (.inr (by omega))).setCell y (by omega) (.inr (by omega)), a, v, t, five_far (five_far h2 (by omega)) (by omega), (h3.set hN 0 x).set hN 1 y, fun b hb hl => h4 b hb (by simp; omega)⟩
  obtain ⟨re, rv'⟩ := r
  have HS := Lib.hid HC
  have hMM := Lib.hid hM
  clear HC a0 a1 b0 b1 hM hB hW
  dsimp only [ov, ob, rb0, rv] at *
  go_enter_defers Try.func19, Try.ntmps19
  go_wp2
  refine HS.out.mono ?_
  rintro e w1 ⟨hT, hQ⟩
  have g0 := hQ.1.cell (by have := hMM.out; omega) A0.out
  have g1 := hQ.1.cell (by have := hMM.out; omega) A1.out
  have z0 := (hQ.1.frozen (by have := hMM.out; omega) A0.out).trans B0.out
  have z1 := (hQ.1.frozen (by have := hMM.out; omega) A1.out).trans B1.out
  have HQ := Lib.hid (FAR.out w1 · · hQ)
  clear hQ FAR HS A0 A1 B0 B1
  rcases hT with ⟨h0, rfl⟩ | ⟨h0, h1, rfl⟩
  · dsimp only at h0
    subst h0
    go_wp2
    refine leaves_cons (f := 26) (args := #[.pointer (some ⟨w.heap.size + 1, 0, none⟩)]) (by simp) (by simp [go_sem]) ?_
    refine (catch_idle ⟨w.heap.size + 1, 0, none⟩ _).mono ?_
    rintro e u' w'' ⟨rfl, rfl, rfl⟩
    simp [Leaves, settle, results, Try.results19, go_sem, g0, g1]
    exact HQ.out _ _
  · dsimp only at h1
    subst h1
    dsimp only
    refine leaves_cons (f := 26) (args := #[.pointer (some ⟨w.heap.size + 1, 0, none⟩)]) (by simp) (by simp [go_sem]) ?_
    refine (catch_no re (w.heap.size + 1) 0 0 _ g0 g1 z0 z1).mono ?_
    rintro e u' w'' ⟨rfl, rfl, rfl⟩
    simp [Leaves, settle, results, Try.results19, go_sem, g0, g1]
    exact HQ.out _ _

set_option maxHeartbeats 1000000 in
set_option maxRecDepth 100000 in
theorem answer_read (T : TypeId) (V V' : Value) (f B : Nat) (oc ok ov' : Int) (r : Rs) (w : World)
    (mc : ∀ w, Sem.run Try.prog (method 237 T V "whitewash/auto.call") w = .ok (f, V') w) (ec : ∀ a b w, Sem.run Try.prog (callFunc f #[V', a, b]) w = .ok (.enter f #[V', a, b]) w)
    (HC : Calls Try.prog f #[V', .pointer (some ⟨B, 0, none⟩), ov oc ok ov'] ((w.alloc (ob oc ok ov')).alloc rb0) fun e w' => TE r e ∧ Ext ((w.alloc (ob oc ok ov')).alloc rb0) w') :
    Calls Try.prog 19 #[.iface T V, .pointer (some ⟨B, 0, none⟩), ov oc ok ov'] w fun e w' => e = .returned (rv r.1 r.2) ∧ Ext w w' := by
  have hmf : ∀ (fn : Fn) (first cap : Array Value) (w : World), (Instr.makeFunc fn first cap).run Try.prog w = .ok (.func fn first cap) w := fun _ _ _ _ => rfl
  have X0 := Lib.hid ((Ext.new w (ob oc ok ov')).alloc rb0)
  obtain ⟨⟨a0, a1⟩, b0, b1⟩ := ans_new (ob oc ok ov') w
  have A0 := Lib.hid a0
  have A1 := Lib.hid a1
  have B0 := Lib.hid b0
  have B1 := Lib.hid b1
  have FAR : RowKit.Hid (∀ w1 x y, Ext ((w.alloc (ob oc ok ov')).alloc rb0) w1 → Ext w ((w1.setCell ⟨w.heap.size + 1, 0, none⟩ x).setCell ⟨w.heap.size + 1, 1, none⟩ y)) := Lib.hid fun w1 x y h => ((X0.out.trans h).setCell (Nat.le_succ _) x).setCell (Nat.le_succ _) y
  obtain ⟨re, rv'⟩ := r
  have HS := Lib.hid HC
  clear HC a0 a1 b0 b1
  dsimp only [ov, ob, rb0, rv] at *
  go_enter_defers Try.func19, Try.ntmps19
  go_wp2
  refine HS.out.mono ?_
  rintro e w1 ⟨hT, hQ⟩
  have g0 := hQ.cell A0.out
  have g1 := hQ.cell A1.out
  have z0 := (hQ.frozen A0.out).trans B0.out
  have z1 := (hQ.frozen A1.out).trans B1.out
  have HQ := Lib.hid (FAR.out w1 · · hQ)
  clear hQ FAR HS A0 A1 B0 B1
  rcases hT with ⟨h0, rfl⟩ | ⟨h0, h1, rfl⟩
  · dsimp only at h0
    subst h0
    go_wp2
    refine leaves_cons (f := 26) (args := #[.pointer (some ⟨w.heap.size + 1, 0, none⟩)]) (by simp) (by simp [go_sem]) ?_
    refine (catch_idle ⟨w.heap.size + 1, 0, none⟩ _).mono ?_
    rintro e u' w'' ⟨rfl, rfl, rfl⟩
    simp [Leaves, settle, results, Try.results19, go_sem, g0, g1]
    exact HQ.out _ _
  · dsimp only at h1
    subst h1
    dsimp only
    refine leaves_cons (f := 26) (args := #[.pointer (some ⟨w.heap.size + 1, 0, none⟩)]) (by simp) (by simp [go_sem]) ?_
    refine (catch_no re (w.heap.size + 1) 0 0 _ g0 g1 z0 z1).mono ?_
    rintro e u' w'' ⟨rfl, rfl, rfl⟩
    simp [Leaves, settle, results, Try.results19, go_sem, g0, g1]
    exact HQ.out _ _

end Go.Proofs.Ytojdhnecafkibaa.Lan

/- LanReg:
  What a call does to a register, and tells. Conditions: the state lies in a box that may be written.
-/
namespace Go.Proofs.Ytojdhnecafkibaa.Lan
open Go.RowKit (Below intOf)
open Go.Proofs.Ytojdhnecafkibaa.Aut
open Go.Proofs.Ytojdhnecafkibaa.Reg (cf bx fits_any)

/-- A store of a word into the box. -/
theorem PB.reg {W : World} {M : Nat} {w w1 : World} {B : Nat} {s : St} {a v t : Sl} (h : PB W M w B s a v t) (e : Ext w w1) (x : Int) (hx : U64 x) : QB W M w (w1.setCell ⟨B, 0, none⟩ (.int .u64 x)) B { s with reg := x } := by
  have h5 := h.five.ext e
  have hss := h.ss.ext e
  refine ⟨((Kp.refl h.e).ext e).setCell _ h.hB (.inl h.hM), a, v, t, ⟨set_same h5.1, set_five h5.2.1 (by decide), set_five h5.2.2.1 (by decide), set_five h5.2.2.2.1 (by decide), set_five h5.2.2.2.2 (by decide)⟩, ?_, fun b hb _ => h.off b hb⟩
  have := hss.set h.offB 0 (.int .u64 x)
  exact ⟨hx, this.2⟩

theorem op_new (o : Obj) (c k v : Int) (w : World) : ((w.alloc o).alloc (ob c k v)).cell? ⟨w.heap.size + 1, 0, none⟩ = some (.int .i64 c) ∧ ((w.alloc o).alloc (ob c k v)).cell? ⟨w.heap.size + 1, 1, none⟩ = some (.int .u64 k) ∧ ((w.alloc o).alloc (ob c k v)).cell? ⟨w.heap.size + 1, 2, none⟩ = some (.int .u64 v) := by
  have hs : (w.alloc o).heap.size = w.heap.size + 1 := by simp
  refine ⟨?_, ?_, ?_⟩ <;> (rw [← hs]; unfold World.cell?; rw [World.alloc_heap_new]; rfl)

set_option maxHeartbeats 2000000 in
set_option maxRecDepth 100000 in
theorem reg_call {W : World} {M : Nat} {w : World} {B : Nat} {s : St} {a v t : Sl} (h : PB W M w B s a v t) (o x y : Int) (hy : U64 y) :
    Calls Try.prog 43 #[kE, .pointer (some ⟨B, 0, none⟩), ov o x y] w fun e w' => TE (regS s ⟨o, x, y⟩).2 e ∧ QB W M w w' B (regS s ⟨o, x, y⟩).1 := by
  have X0 := (Ext.new w (.cells #[] 72)).alloc (ob o x y)
  obtain ⟨k2, k3, k4⟩ := op_new (.cells #[] 72) o x y w
  have hP := h.ext X0
  have g0 := hP.five.1
  have z0 := hP.fro 0
  have hru := h.ss.1
  have HC := Lib.hid (fun W => canon_any y W hy.1 hy.2)
  have HM := Lib.hid (fun W => max_any s.reg y W hru.1 hru.2 hy.1 hy.2)
  have HS := Lib.hid (fun W => sum_any s.reg y W)
  have HR : RowKit.Hid (∀ w1 z, Ext ((w.alloc (.cells #[] 72)).alloc (ob o x y)) w1 → U64 z → QB W M w (w1.setCell ⟨B, 0, none⟩ (.int .u64 z)) B { s with reg := z }) := Lib.hid fun w1 z e hz => h.reg (X0.trans e) z hz
  have HU : RowKit.Hid (U64 (canon y) ∧ U64 (maxOf s.reg y) ∧ U64 (sumOf s.reg y)) := Lib.hid ⟨⟨canon_lo y hy.1, canon_hi y hy.2⟩, ⟨max_lo _ _ hru.1 hy.1, max_hi _ _ hru.2 hy.2⟩, ⟨sum_lo _ _, sum_hi _ _⟩⟩
  have HQ := Lib.hid (h.read X0)
  have hs : ∀ c : Int, o ≠ c → (o == c) = false := fun c h => by simpa using h
  clear hy hru h hP X0
  dsimp only [ov, ob] at *
  by_cases h1 : o = 1
  · subst h1
    have e : regS s ⟨1, x, y⟩ = (s, (0, s.reg)) := by unfold regS; rw [if_pos rfl]
    rw [e]
    go_enter Try.func43, Try.ntmps43
    go_wp2_with (fail)
    go_ret
    exact ⟨te_ret _, HQ.out⟩
  by_cases h2 : o = 2
  · subst h2
    have e : regS s ⟨2, x, y⟩ = ({ s with reg := canon y }, (0, s.reg)) := by unfold regS; rw [if_neg (by simp), if_pos rfl]
    rw [e]
    go_enter Try.func43, Try.ntmps43
    go_wp2_with (first | (go_at_call 47; (with_reducible refine (HC.out _).mono ?_); rintro e w' ⟨rfl, rfl⟩))
    go_ret
    exact ⟨te_ret _, HR.out _ _ (Ext.refl _) HU.out.1⟩
  by_cases h3 : o = 3
  · subst h3
    have e : regS s ⟨3, x, y⟩ = ({ s with reg := maxOf s.reg y }, (0, maxOf s.reg y)) := by unfold regS; rw [if_neg (by simp), if_neg (by simp), if_pos rfl]
    rw [e]
    have y0 : RowKit.Hid (∀ z, _) := Lib.hid fun z => set_same (y := .int .u64 z) g0
    have y1 := y0.out (maxOf s.reg y)
    go_enter Try.func43, Try.ntmps43
    go_wp2_with (first | (go_at_call 48; (with_reducible refine (HM.out _).mono ?_); rintro e w' ⟨rfl, rfl⟩))
    go_ret
    exact ⟨te_ret _, HR.out _ _ (Ext.refl _) HU.out.2.1⟩
  by_cases h4 : o = 4
  · subst h4
    have e : regS s ⟨4, x, y⟩ = ({ s with reg := sumOf s.reg y }, (0, sumOf s.reg y)) := by unfold regS; rw [if_neg (by simp), if_neg (by simp), if_neg (by simp), if_pos rfl]
    rw [e]
    go_enter Try.func43, Try.ntmps43
    go_wp2_with (first | (go_at_call 49; (with_reducible refine (HS.out _).mono ?_); rintro e w' ⟨rfl, n, rfl⟩))
    go_ret
    exact ⟨te_ret _, HR.out _ _ (Ext.drewN (Ext.refl _) _) HU.out.2.2⟩
  have e : regS s ⟨o, x, y⟩ = (s, (10, 0)) := by unfold regS; rw [if_neg h1, if_neg h2, if_neg h3, if_neg h4]
  rw [e]
  have b1 := hs 1 h1
  have b2 := hs 2 h2
  have b3 := hs 3 h3
  have b4 := hs 4 h4
  clear h1 h2 h3 h4 hs
  go_enter Try.func43, Try.ntmps43
  go_wp2_with (fail)
  exact ⟨rfl, te_no (by decide), HQ.out⟩

end Go.Proofs.Ytojdhnecafkibaa.Lan

/- LanBal:
  What a call does to a ballot, and tells. Conditions: the state lies in a box that may be written, and so do its votes.
-/
namespace Go.Proofs.Ytojdhnecafkibaa.Lan
open Go.RowKit (Below intOf)
open Go.Proofs.Ytojdhnecafkibaa.Aut
open Go.Proofs.Ytojdhnecafkibaa.Reg (cf bx fits_any)

theorem ns_upd {w : World} {g n c i : Nat} {x : Int} {xs : List Int} (h : NS w (some ⟨g, 0, none⟩) n c xs) (hi : i < n) (hx : I64 x) : NS (w.setCell ⟨g, i, none⟩ (.int .i64 x)) (some ⟨g, 0, none⟩) n c (xs.set i x) := by
  refine ⟨by rw [List.length_set]; exact h.1, h.2.1, h.2.2.1, h.2.2.2.1, fun j y hj => ?_⟩
  by_cases e : i = j
  · subst e
    rw [List.getElem?_set_self (by rw [h.1]; exact hi)] at hj
    cases hj
    obtain ⟨z, _, _, b, o, e0, hc⟩ := h.get hi
    cases e0
    rw [Nat.zero_add] at hc
    exact ⟨hx, g, 0, rfl, by rw [Nat.zero_add]; exact World.cell?_setCell_same' _ _ _ (by rw [hc]; rfl)⟩
  · rw [List.getElem?_set_ne e] at hj
    obtain ⟨hu, b, o, e0, hc⟩ := h.2.2.2.2 j y hj
    cases e0
    exact ⟨hu, g, 0, rfl, by rw [set_far (by omega)]; exact hc⟩
theorem choice_yes (x : Int) (w : World) (h1 : 1 ≤ x) (h8 : x ≤ 8) : Calls Try.prog 102 #[.int .u64 x] w fun e w' => e = .returned (.int .i64 x) ∧ w = w' := by
  have b1 : ¬ x < 1 := by omega
  have b2 : ¬ 8 < x := by omega
  have b3 : decide (x < 1) = false := decide_eq_false b1
  have b4 : decide (8 < x) = false := decide_eq_false b2
  have b5 : IntKind.i64.wrap x = x := by simp only [IntKind.wrap_i64]; omega
  go_enter Try.func102, Try.ntmps102
  go_wp2_with (first | (go_at_call 69; with_reducible refine (refuse_no _ _).mono ?_; rintro e w' ⟨rfl, rfl⟩))
  go_ret
  first | exact ⟨rfl, rfl⟩ | (rw [b5]; exact ⟨rfl, rfl⟩)
theorem choice_no (x : Int) (w : World) (h : x < 1 ∨ 8 < x) : Calls Try.prog 102 #[.int .u64 x] w fun e w' => e = .panicked (noE 10) ∧ w = w' := by
  by_cases c : x < 1
  · have b3 : decide (x < 1) = true := decide_eq_true c
    clear h
    go_enter Try.func102, Try.ntmps102
    go_wp2_with (first | (go_at_call 69; with_reducible refine (refuse_yes _ _).mono ?_; rintro e w' ⟨rfl, rfl⟩))
    exact ⟨rfl, rfl, rfl⟩
  · have c2 : 8 < x := by omega
    have b3 : decide (x < 1) = false := decide_eq_false c
    have b4 : decide (8 < x) = true := decide_eq_true c2
    clear h
    go_enter Try.func102, Try.ntmps102
    go_wp2_with (first | (go_at_call 69; with_reducible refine (refuse_yes _ _).mono ?_; rintro e w' ⟨rfl, rfl⟩))
    exact ⟨rfl, rfl, rfl⟩

theorem tally_take {vs : List Int} {i : Nat} {y : Int} (h : vs[i]? = some y) (x : Int) : tallyL (vs.take (i + 1)) x = tallyL (vs.take i) x + (if y = x then 1 else 0) := by
  unfold tallyL
  rw [take_snoc h, List.countP_append]
  congr 1
  by_cases c : y = x <;> simp [c]
theorem tally_le (vs : List Int) (x : Int) : tallyL vs x ≤ vs.length := by unfold tallyL; exact List.countP_le_length

set_option maxHeartbeats 1000000 in
theorem tally_yes (sl : Option Addr) (n c : Nat) (vs : List Int) (x : Int) (w : World) (hN : NS w sl n c vs) (h1 : 1 ≤ x) (h8 : x ≤ 8) : Calls Try.prog 100 #[.slice sl n c, .int .u64 x] w fun e w' => e = .returned (.int .u64 (tallyL vs x : Nat)) ∧ w = w' := by
  have HC := Lib.hid (fun w => choice_yes x w h1 h8)
  have hn := hN.le
  have HN := Lib.hid hN
  clear hN
  go_enter Try.func100, Try.ntmps100
  go_wp2_with (first | (go_at_call 102; with_reducible refine (HC.out _).mono ?_; rintro e w' ⟨rfl, rfl⟩))
  go_loopg [6, 13] n (fun kx s6 s13 wr => wr = w ∧ ∃ i : Nat, s13 = .int .i64 i ∧ i ≤ n ∧ n - i ≤ kx ∧ s6 = .int .u64 (tallyL (vs.take i) x : Nat))
  case atStart => exact ⟨rfl, 0, rfl, Nat.zero_le _, by omega, by simp [tallyL]⟩
  case round =>
    obtain ⟨rfl, i, rfl, hi, hg, rfl⟩ := hrel
    by_cases hlt : i < n
    · have hlt2 : (i : Int) < n := by omega
      obtain ⟨y, hy, hyu, b, o, rfl, hyc⟩ := HN.out.get hlt
      have ht := Lib.hid (tally_take hy x)
      have hle : tallyL (vs.take i) x ≤ i := Nat.le_trans (tally_le _ _) (by rw [List.length_take]; omega)
      clear hy hyu
      generalize hq : tallyL (vs.take i) x = q at *
      clear hq
      by_cases he : y = x
      · have hb : (y == x) = true := by simpa using he
        have hw : IntKind.u64.wrap ((q : Int) + 1) = (q : Int) + 1 := by simp only [IntKind.wrap_u64]; omega
        rw [if_pos he] at ht
        clear he
        go_wp2_with (first | (go_at_call 65; with_reducible refine (lbit_any _ _).mono ?_; rintro e w' ⟨rfl, rfl⟩; simp only [bitZ, if_true]))
        go_roundg (n - (i + 1))
        case measure => omega
        case rel => exact ⟨rfl, i + 1, by first | rfl | (congr 1; omega), by omega, by omega, by rw [ht.out]; first | rfl | (congr 1; simp only [bitZ, if_true, IntKind.wrap_u64]; omega)⟩
      · have hb : (y == x) = false := by simpa using he
        have hw : IntKind.u64.wrap ((q : Int) + 0) = (q : Int) := by simp only [IntKind.wrap_u64]; omega
        rw [if_neg he] at ht
        clear he
        go_wp2_with (first | (go_at_call 65; with_reducible refine (lbit_any _ _).mono ?_; rintro e w' ⟨rfl, rfl⟩; simp only [bitZ, Bool.false_eq_true, if_false]))
        go_roundg (n - (i + 1))
        case measure => omega
        case rel => exact ⟨rfl, i + 1, by first | rfl | (congr 1; omega), by omega, by omega, by rw [ht.out]; first | rfl | (congr 1; simp only [bitZ, Bool.false_eq_true, if_false, IntKind.wrap_u64]; omega)⟩
    · obtain rfl : i = n := by omega
      have hlt2 : ¬ (i : Int) < i := by omega
      have ht : vs.take i = vs := by rw [← HN.out.len]; exact List.take_length
      have hq : RowKit.Hid (tallyL (vs.take i) x = tallyL vs x) := Lib.hid (by rw [ht])
      clear ht
      go_wp2_with (fail)
      go_ret
      exact ⟨by rw [← hq.out]; rfl, rfl⟩
theorem tally_no (sl : Option Addr) (n c : Nat) (x : Int) (w : World) (h : x < 1 ∨ 8 < x) : Calls Try.prog 100 #[.slice sl n c, .int .u64 x] w fun e w' => e = .panicked (noE 10) ∧ w = w' := by
  have HC := Lib.hid (fun w => choice_no x w h)
  clear h
  go_enter Try.func100, Try.ntmps100
  go_wp2_with (first | (go_at_call 102; with_reducible refine (HC.out _).mono ?_; rintro e w' ⟨rfl, rfl⟩))
  exact ⟨rfl, rfl, rfl⟩

theorem vote_yes (m : Nat) (hm : m ≤ 256) (B g o n c : Nat) (x : Int) (w : World) (h0 : 0 ≤ x) (hx : x < m) (hn : n = m) (hc : w.cell? ⟨B, 3, none⟩ = some (.slice (some ⟨g, o, none⟩) n c)) :
    Calls Try.prog 101 #[.agg #[.int .i64 (m : Int)], .pointer (some ⟨B, 0, none⟩), .int .u64 x] w fun e w' => e = .returned (.pointer (some ⟨g, o + x.toNat, none⟩)) ∧ w' = w.alloc (bbx m) := by
  subst hn
  have hc1 : (w.alloc (bbx n)).cell? ⟨B, 3, none⟩ = some (.slice (some ⟨g, o, none⟩) n c) := box_alloc hc
  have hu := len_u64 (n := n) (by omega)
  have b1 : ¬ (n : Int) ≤ x := by omega
  have b2 : decide ((n : Int) ≤ x) = false := decide_eq_false b1
  clear hc
  dsimp only [bbx] at *
  go_enter Try.func101, Try.ntmps101
  go_wp2_with (first | (go_at_call 69; with_reducible refine (refuse_no _ _).mono ?_; rintro e w' ⟨rfl, rfl⟩))
  go_ret
  first | exact ⟨rfl, rfl⟩ | simp
theorem vote_no (m : Nat) (hm : m ≤ 256) (B : Nat) (x : Int) (w : World) (hx : (m : Int) ≤ x) :
    Calls Try.prog 101 #[.agg #[.int .i64 (m : Int)], .pointer (some ⟨B, 0, none⟩), .int .u64 x] w fun e w' => e = .panicked (noE 10) ∧ w' = w.alloc (bbx m) := by
  have hu := len_u64 (n := m) (by omega)
  have b2 : decide ((m : Int) ≤ x) = true := decide_eq_true hx
  dsimp only [bbx] at *
  go_enter Try.func101, Try.ntmps101
  go_wp2_with (first | (go_at_call 69; with_reducible refine (refuse_yes _ _).mono ?_; rintro e w' ⟨rfl, rfl⟩))
  exact ⟨rfl, rfl, rfl⟩

/-- What is asked of a ballot that is called: its state, its votes' row, and the call. -/
structure Bl (W : World) (M : Nat) (w : World) (B : Nat) (s : St) (a v t : Sl) (m : Nat) (x y : Int) : Prop where
  P : PB W M w B s a v t
  V : VotesOk m s
  m1 : 1 ≤ m
  m2 : m ≤ 256
  k : s.keys = []
  l : s.vals = []
  x : U64 x
  y : U64 y
  g : ∃ g, t.a = some ⟨g, 0, none⟩ ∧ W.heap.size ≤ g ∧ g < M ∧ g ≠ B ∧ ∀ i, w.frozen? ⟨g, i, none⟩ = false
theorem Bl.ext {W : World} {M : Nat} {w w' : World} {B : Nat} {s : St} {a v t : Sl} {m : Nat} {x y : Int} (h : Bl W M w B s a v t m x y) (e : Ext w w') : Bl W M w' B s a v t m x y := by
  obtain ⟨g, h1, h2, h3, h4, h5⟩ := h.g
  exact ⟨h.P.ext e, h.V, h.m1, h.m2, h.k, h.l, h.x, h.y, g, h1, h2, h3, h4, fun i => (Below.frozen (p := ⟨g, i, none⟩) e (Nat.lt_of_lt_of_le h3 h.P.hw)).trans (h5 i)⟩
theorem ws_none {w w' : World} {sl : Option Addr} {n c : Nat} {xs : List Int} (h : WS w sl n c xs) (hx : xs = []) : WS w' sl n c xs := by
  subst hx; exact ⟨h.1, h.2.1, h.2.2.1, h.2.2.2.1, fun j x hj => by simp at hj⟩
/-- A vote that is cast. -/
theorem Bl.vote {W : World} {M : Nat} {w w1 : World} {B : Nat} {s : St} {a v t : Sl} {m : Nat} {x y : Int} (h : Bl W M w B s a v t m x y) (e : Ext w w1) (i : Nat) (hi : i < m) (z : Int) (hz : I64 z) (g : Nat) (hg : t.a = some ⟨g, 0, none⟩) : QB W M w (w1.setCell ⟨g, i, none⟩ (.int .i64 z)) B { s with votes := s.votes.set i z } := by
  obtain ⟨g', h1, h2, h3, h4, h5⟩ := h.g
  rw [hg] at h1
  cases h1
  have hss := h.P.ss.ext e
  have hl := h.V.1
  have hn := hss.2.2.2.len
  refine ⟨((Kp.refl h.P.e).ext e).setCell _ h2 (.inl h3), a, v, t, five_far (h.P.five.ext e) (Ne.symm h4), ⟨hss.1, ws_none hss.2.1 h.k, ws_none hss.2.2.1 h.l, ?_⟩, fun b hb _ => h.P.off b hb⟩
  have := hss.2.2.2
  rw [hg] at this ⊢
  exact ns_upd this (by omega) hz

set_option maxHeartbeats 2000000 in
set_option maxRecDepth 100000 in
theorem cast_yes {W : World} {M : Nat} {w : World} {B : Nat} {s : St} {a v t : Sl} {m : Nat} {x y : Int} (h : Bl W M w B s a v t m x y) (hx : x < m) (h1 : 1 ≤ y) (h8 : y ≤ 8) :
    Calls Try.prog 99 #[.agg #[.int .i64 (m : Int)], .pointer (some ⟨B, 0, none⟩), ov 12 x y] w fun e w' => TE (castS m s ⟨12, x, y⟩).2 e ∧ QB W M w w' B (castS m s ⟨12, x, y⟩).1 := by
  have X0 := Lib.hid ((Ext.new w (bbx m)).alloc (ob 12 x y))
  obtain ⟨k2, k3, k4⟩ := op_new (bbx m) 12 x y w
  have k1 : ((w.alloc (bbx m)).alloc (ob 12 x y)).cell? ⟨w.heap.size, 0, none⟩ = some (.int .i64 (m : Int)) := box_alloc (by unfold World.cell?; rw [World.alloc_heap_new]; rfl)
  have hm2 := h.m2
  have hl := h.V.1
  have hss := h.P.ss
  have hn := hss.2.2.2.len
  have hP := h.P
  obtain ⟨g, hg, hg1, hg2, hg3, hg4⟩ := h.g
  obtain ⟨q, hq⟩ : ∃ q : Nat, x = q := ⟨x.toNat, by have := h.x.1; omega⟩
  subst hq
  have hqm : q < m := by omega
  obtain ⟨u, hu, huI, b', o', eb, huc⟩ := hss.2.2.2.get (k := q) (by omega)
  rw [hg] at eb
  cases eb
  have hgd : s.votes.getD q 0 = u := by rw [List.getD_eq_getElem?_getD, hu]; rfl
  have HV : RowKit.Hid (∀ W, Ext w W → Calls Try.prog 101 #[.agg #[.int .i64 (m : Int)], .pointer (some ⟨B, 0, none⟩), .int .u64 (q : Int)] W fun e w' => e = .returned (.pointer (some ⟨g, q, none⟩)) ∧ w' = W.alloc (bbx m)) := Lib.hid fun W hE => by
    have h9 := (hP.ext hE).five.2.2.2.1
    rw [hg] at h9
    have := vote_yes m hm2 B g 0 t.n t.c (q : Int) W (by omega) (by omega) (by omega) h9
    simpa only [Nat.zero_add, Int.toNat_natCast] using this
  have HC := Lib.hid (fun w => choice_yes y w h1 h8)
  have HW : RowKit.Hid (∀ w1, Ext w w1 → QB W M w (w1.setCell ⟨g, q, none⟩ (.int .i64 y)) B { s with votes := s.votes.set q y }) := Lib.hid fun w1 e => h.vote e q hqm y (by unfold I64; omega) g hg
  have HQ : RowKit.Hid (∀ w1, Ext w w1 → QB W M w w1 B s) := Lib.hid fun w1 e => hP.read e
  have HF : RowKit.Hid (∀ w1, Ext w w1 → w1.cell? ⟨B, 4, none⟩ = some (.bool s.closed) ∧ w1.cell? ⟨g, q, none⟩ = some (.int .i64 u) ∧ w1.frozen? ⟨g, q, none⟩ = false) := Lib.hid fun w1 e => ⟨(hP.five.ext e).2.2.2.2, e.cell (by simpa using huc), by
    obtain ⟨g', a1, _, _, _, a5⟩ := (h.ext e).g
    rw [hg] at a1; cases a1; exact a5 q⟩
  have hcs : RowKit.Hid (castS m s ⟨12, q, y⟩ = if s.closed = true then (s, (14, 0)) else if u ≠ 0 then (s, (13, 0)) else ({ s with votes := s.votes.set q y }, (0, 0))) := Lib.hid (by
    unfold castS; rw [if_neg (by dsimp only; omega)]; simp only [Int.toNat_natCast, hgd])
  clear h hl hss hn hP hg hg4 hu huI huc hgd hqm h1 h8 hx
  obtain ⟨sr, sk, sl', sw, cl⟩ := s
  dsimp only [ov, ob, bbx] at *
  go_enter Try.func99, Try.ntmps99
  go_wp2_with (fail)
  go_region_held3 (fun w' => (w'.cell? ⟨w.heap.size, 0, none⟩ = some (.int .i64 (m : Int))) ∧ w'.cell? ⟨w.heap.size + 1, 0, none⟩ = some (.int .i64 12) ∧ w'.cell? ⟨w.heap.size + 1, 1, none⟩ = some (.int .u64 (q : Int)) ∧ w'.cell? ⟨w.heap.size + 1, 2, none⟩ = some (.int .u64 y))
    (repeat' (first | (with_reducible assumption) | (with_reducible refine And.intro ?_ ?_) | (with_reducible refine box_alloc ?_) | (with_reducible refine box_drew ?_) | (with_reducible refine Ext.cell ‹_› ?_)))
    (first
      | (go_at_call 101; (with_reducible refine (HV.out _ (by repeat (first | exact X0.out | refine Ext.alloc ?_ _ | refine Ext.drew ?_))).mono ?_); rintro e w' ⟨rfl, rfl⟩)
      | (go_at_call 102; (with_reducible refine (HC.out _).mono ?_); rintro e w' ⟨rfl, rfl⟩))
  all_goals
    have X1 : RowKit.Hid (Ext w (((w.alloc (.cells #[.int .i64 (m : Int)] 83)).alloc (.cells #[.int .i64 12, .int .u64 (q : Int), .int .u64 y] 39)).alloc (.cells #[.int .i64 (m : Int)] 83)).drew) := Lib.hid (by repeat (first | exact X0.out | refine Ext.alloc ?_ _ | refine Ext.drew ?_))
    obtain ⟨f1, f2, f3⟩ := HF.out _ X1.out
    cases cl
    · by_cases hu0 : u = 0
      · have b0 : (u != 0) = false := by simp [hu0]
        have hz := hcs.out
        rw [if_neg (by simp), if_neg (by simp [hu0])] at hz
        replace hz := Lib.hid hz
        clear hu0 hcs
        go_wp2_with (first
          | (go_at_call 69; (with_reducible refine (refuse_no _ _).mono ?_); rintro e w' ⟨rfl, rfl⟩))
        go_ret
        exact ⟨by rw [hz.out]; exact te_ret _, by rw [hz.out]; exact HW.out _ X1.out⟩
      · have b0 : (u != 0) = true := by simpa using hu0
        have hz := hcs.out
        rw [if_neg (by simp), if_pos hu0] at hz
        replace hz := Lib.hid hz
        clear hu0 hcs
        go_wp2_with (first
          | (go_at_call 69; (with_reducible refine (refuse_no _ _).mono ?_); rintro e w' ⟨rfl, rfl⟩)
          | (go_at_call 69; (with_reducible refine (refuse_yes _ _).mono ?_); rintro e w' ⟨rfl, rfl⟩))
        exact ⟨rfl, by rw [hz.out]; exact te_no (by decide), by rw [hz.out]; exact HQ.out _ X1.out⟩
    · have hz := hcs.out
      rw [if_pos rfl] at hz
      replace hz := Lib.hid hz
      clear hcs
      go_wp2_with (first
        | (go_at_call 69; (with_reducible refine (refuse_yes _ _).mono ?_); rintro e w' ⟨rfl, rfl⟩))
      exact ⟨rfl, by rw [hz.out]; exact te_no (by decide), by rw [hz.out]; exact HQ.out _ X1.out⟩

end Go.Proofs.Ytojdhnecafkibaa.Lan

