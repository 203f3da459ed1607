/-
  Parts of a proof, one behind the other: EncKeys, EncDict, EncSet, EncAny, EncTakenS, EncDecAny, EncTakenO, EncTakenT. Each says its own conditions.
-/
import Derived.Test.YtmonkcekkhfafaaGreatDoorM01
import Derived.Test.YtmonkcekkhfafaaGreatDoorM23
import Derived.Test.YtmonkcekkhfafaaGreatDoorM26
import Derived.Deep.RegionHeld3

/- EncKeys:
  What the landed keysAndVals answers of records. Condition: the records are there.
-/
namespace Go.Proofs.YtmonkcekkhfafaaGreatDoor.Enc
open Go.RowKit (Below intOf)
open Go.Proofs.YtmonkcekkhfafaaGreatDoor.Aut
open Go.Proofs.YtmonkcekkhfafaaGreatDoor.Reg (cf bx)

/-- A record's key: one less, as words go. -/
def keyOf (x : Int) : Int := (x - 1) % 18446744073709551616
/-- append of one word onto a row of one's own. -/
theorem addWS {w : World} {base n c : Nat} {sl : Option Addr} {ys : List Int} (hown : w.ownsRow base 26 1 (.slice sl n c) n (flatWS ys)) {b : Nat} {z : Int} (hS : WS w (some ⟨b, 0, none⟩) 1 1 [z]) (hle : n + 1 ≤ 4194304) (hbase : base ≤ w.heap.size) :
    ∃ sl' c' w', RowKit.Hid ((Builtin.append_ #[27, 27] 27 #[.slice sl n c, .slice (some ⟨b, 0, none⟩) 1 1]).run Tryz.prog w = .ok (.slice sl' (n + 1) c') w') ∧ w'.ownsRow base 26 1 (.slice sl' (n + 1) c') (n + 1) (flatWS (ys ++ [z])) ∧ w.grownBy w' (Value.slice sl n c).ownBlock ∧
      ((Value.slice sl' (n + 1) c').ownBlock = (Value.slice sl n c).ownBlock ∨ (Value.slice sl' (n + 1) c').ownBlock = some w.heap.size) := by
  obtain ⟨i0, hi, hz0, hz1, hz2⟩ := info_parts infoWS
  obtain ⟨v', w', hrun, h2, h3, _, h5⟩ := run_append_own_at (P := Tryz.prog) w base 27 27 26 i0 _ 1 8 Tryz.underlying27 hi hz0 hz1 hz2 rfl (by decide) _ n (flatWS ys) hown ⟨b, 0, none⟩ 1 1 (flatWS [z]) (by rw [flatWS_len]; rfl) hS.news (flatWS_one [z]) (by unfold maxLen; omega) (by omega) hbase
  obtain ⟨sl', c', rfl⟩ := own_form h2
  exact ⟨sl', c', w', Lib.hid hrun, by rw [flatWS_append]; exact h2, h3, h5⟩

/-- Two rows of one's own, one beside the other. -/
structure Kv (w wr : World) (ka : Option Addr) (kn kc : Nat) (va : Option Addr) (vn vc : Nat) (xs ys : List Int) : Prop where
  e : Ext w wr
  k : wr.ownsRow w.heap.size 26 1 (.slice ka kn kc) kn (flatWS xs)
  v : wr.ownsRow w.heap.size 26 1 (.slice va vn vc) vn (flatWS ys)
  a : (Value.slice ka kn kc).ownBlock = none ∨ (Value.slice ka kn kc).ownBlock ≠ (Value.slice va vn vc).ownBlock
  lk : xs.length = kn
  lv : ys.length = vn
  uk : ∀ x ∈ xs, U64 x
  uv : ∀ x ∈ ys, U64 x
section
variable {w wr W : World} {ka : Option Addr} {kn kc : Nat} {va : Option Addr} {vn vc : Nat} {xs ys : List Int}
theorem Kv.ext (h : Kv w wr ka kn kc va vn vc xs ys) (e : Ext wr W) : Kv w W ka kn kc va vn vc xs ys :=
  ⟨h.e.trans e, own_ext2 h.k e, own_ext2 h.v e, h.a, h.lk, h.lv, h.uk, h.uv⟩
theorem Kv.flip (h : Kv w wr ka kn kc va vn vc xs ys) : Kv w wr va vn vc ka kn kc ys xs := by
  refine ⟨h.e, h.v, h.k, ?_, h.lv, h.lk, h.uv, h.uk⟩
  rcases h.a with c | c
  · by_cases d : (Value.slice va vn vc).ownBlock = none
    · exact .inl d
    · exact .inr (by rw [c]; exact d)
  · exact .inr c.symm
theorem Kv.add (h : Kv w wr ka kn kc va vn vc xs ys) {z : Int} (hz : U64 z) (hn : kn ≤ 1048576) :
    ∃ sx cx wx, RowKit.Hid ((Builtin.append_ #[27, 27] 27 #[.slice ka kn kc, .slice (some ⟨wr.heap.size, 0, none⟩) 1 1]).run Tryz.prog (wr.alloc (.cells #[.int .u64 z] 26)) = .ok (.slice sx (kn + 1) cx) wx) ∧
      Kv w wx sx (kn + 1) cx va vn vc (xs ++ [z]) ys ∧ ∀ b cs, Cb wr b cs → (∀ g, (Value.slice ka kn kc).ownBlock = some g → b ≠ g) → Cb wx b cs := by
  have e3 : Ext wr (wr.alloc (.cells #[.int .u64 z] 26)) := Ext.new wr _
  have hs := e3.size
  have hz0 := h.e.size
  have hk3 := own_ext2 h.k e3
  have hv3 := own_ext2 h.v e3
  obtain ⟨sx, cx, wx, RX, OX, GX, AX⟩ := addWS (ys := xs) hk3 (WS.lit wr z hz) (by omega) (by omega)
  have hge := own_ge h.k
  refine ⟨sx, cx, wx, RX, ⟨(h.e.trans e3).grown GX hge, OX, hv3.kept GX ?_, ?_, by rw [List.length_append, h.lk]; rfl, h.lv, fun x hx => ?_, h.uv⟩, fun b cs hb hne => ?_⟩
  · rcases h.a with c | c
    · by_cases d : (Value.slice va vn vc).ownBlock = none
      · exact .inl d
      · exact .inr (by rw [c]; exact d)
    · exact .inr c.symm
  · rcases AX with c | c
    · rw [c]; exact h.a
    · right; rw [c]; intro d
      have := (hv3.lt _ d.symm).2
      omega
  · rcases List.mem_append.1 hx with hx | hx
    · exact h.uk x hx
    · rw [List.mem_singleton.1 hx]; exact hz
  · have hb3 := hb.ext e3
    exact ⟨Nat.lt_of_lt_of_le hb3.lt GX.size, fun j u hu => GX.cell (a := ⟨b, j, none⟩) (hb3.c j u hu) (fun hk => hne b hk.symm rfl), fun j => (GX.frozen_far ⟨b, j, none⟩ hb3.lt (fun hk => hne b hk.symm rfl)).trans (hb3.f j)⟩
end
theorem key_u (x : Int) : U64 (keyOf x) := by unfold keyOf U64; omega
/-- Keys and values of records. -/
def keysK (l : List (Int × Int)) : List Int := l.map fun r => keyOf r.1
def valsK (l : List (Int × Int)) : List Int := l.map (·.2)

set_option maxHeartbeats 8000000 in
set_option maxRecDepth 100000 in
theorem keys_any (sl : Option Addr) (n c : Nat) (l : List (Int × Int)) (w : World) (hl : Prb.QS w sl n c l) (hn : n ≤ 1048576) :
    Calls Tryz.prog 80 #[.slice sl n c] w fun e w' => Ext w w' ∧ ∃ k v : Sl, e = .returned (.tuple #[.slice k.a k.n k.c, .slice v.a v.n v.c]) ∧ WS w' k.a k.n k.c (keysK l) ∧ WS w' v.a v.n v.c (valsK l) ∧ (∀ B, B < w.heap.size → Off k.a B) ∧ ∀ B, B < w.heap.size → Off v.a B := by
  have HR := Lib.hid hl
  have hlen := hl.1
  have Hlen := Lib.hid hlen
  clear hl hlen
  go_enter Tryz.func80, Tryz.ntmps80
  go_wp2_with (fail)
  go_loopg [2, 3, 8] n (fun kx s2 s3 s8 wr => ∃ (j : Nat) (ka : Option Addr) (kn kc : Nat) (va : Option Addr) (vn vc : Nat), s2 = .slice ka kn kc ∧ s3 = .slice va vn vc ∧ s8 = .int .i64 j ∧ j ≤ n ∧ n - j ≤ kx ∧ RowKit.Hid (Kv w wr ka kn kc va vn vc (keysK (l.take j)) (valsK (l.take j))))
  case atStart => exact ⟨0, none, 0, 0, none, 0, 0, rfl, rfl, rfl, Nat.zero_le _, by omega, Lib.hid ⟨Ext.refl w, World.ownsRow_nil _ _ _ _, World.ownsRow_nil _ _ _ _, .inl rfl, rfl, rfl, fun _ h => by simp [keysK] at h, fun _ h => by simp [valsK] at h⟩⟩
  case round =>
    obtain ⟨j, ka, kn, kc, va, vn, vc, rfl, rfl, rfl, hj, hg, D⟩ := hrel
    by_cases hlt : j < n
    · have hlt2 : (j : Int) < n := by omega
      have hjl : j < l.length := by rw [Hlen.out]; exact hlt
      obtain ⟨⟨x, y⟩, hr⟩ : ∃ r, l[j]? = some r := ⟨_, List.getElem?_eq_getElem hjl⟩
      obtain ⟨hru, b, o, rfl, hc0, hc1⟩ := HR.out.2.2.2.2 j _ hr
      dsimp only at hc0 hc1
      have cx := D.out.e.cell hc0
      have cy := D.out.e.cell hc1
      have hks : keysK (l.take (j + 1)) = keysK (l.take j) ++ [keyOf x] := by unfold keysK; rw [take_snoc hr, List.map_append]; rfl
      have hvs : valsK (l.take (j + 1)) = valsK (l.take j) ++ [y] := by unfold valsK; rw [take_snoc hr, List.map_append]; rfl
      have Hks := Lib.hid hks
      have Hvs := Lib.hid hvs
      have Hru := Lib.hid hru
      have hkn : kn ≤ 1048576 := by have h1 := D.out.lk; unfold keysK at h1; rw [List.length_map, List.length_take] at h1; omega
      have hvn : vn ≤ 1048576 := by have h1 := D.out.lv; unfold valsK at h1; rw [List.length_map, List.length_take] at h1; omega
      have hw1 : IntKind.u64.wrap (x - 1) = keyOf x := by unfold keyOf; rw [IntKind.wrap_u64]
      have D1 := D.out.ext (Ext.new wr (.cells #[.int .u64 x, .int .u64 y] 80))
      have B1 := Cb.new wr [.int .u64 x, .int .u64 y] 80
      obtain ⟨sk, ck, w1, RK, D2, C1⟩ := D1.add (key_u x) hkn
      have B2 := C1 _ _ B1 (fun g hg => by have := (D.out.k.lt _ hg).2; omega)
      obtain ⟨su, cu, w2, RV, D3, C2⟩ := D2.flip.add hru.2 hvn
      have D4 := Lib.hid D3.flip
      obtain ⟨g0, g1⟩ := B2.two
      rw [World.size_alloc] at RK
      have hms : n - (j + 1) < gk := by omega
      clear hks hvs hru hr hc0 hc1 D D1 D2 D3 C1 C2 B1 B2 hg
      go_wp2_with (first
        | (at_builtin; refine Lib.wpList_append_run _ rfl (.tmp 12) (.tmp 16) _ _ rfl _ _ rfl rfl _ _ RK.out ?_)
        | (at_builtin; refine Lib.wpList_append_run _ rfl (.tmp 18) (.tmp 21) _ _ rfl _ _ rfl rfl _ _ RV.out ?_))
      go_roundg (n - (j + 1))
      case measure => exact hms
      case rel => exact ⟨j + 1, sk, kn + 1, ck, su, vn + 1, cu, rfl, rfl, by first | rfl | (congr 1), by omega, by omega, Lib.hid (by rw [Hks.out, Hvs.out]; exact D4.out)⟩
    · obtain rfl : j = n := by omega
      have hlt2 : ¬ (j : Int) < j := by omega
      have ht : l.take j = l := List.take_of_length_le (by rw [Hlen.out]; exact Nat.le_refl _)
      have hD := D.out
      rw [ht] at hD
      have HD := Lib.hid hD
      have hkn : kn ≤ 1048576 := by have h1 := hD.lk; unfold keysK at h1; rw [List.length_map, Hlen.out] at h1; omega
      have hvn : vn ≤ 1048576 := by have h1 := hD.lv; unfold valsK at h1; rw [List.length_map, Hlen.out] at h1; omega
      clear hD D ht
      go_wp2_with (fail)
      go_ret2
      exact ⟨HD.out.e, ⟨ka, kn, kc⟩, ⟨va, vn, vc⟩, rfl, WS.of_own HD.out.k HD.out.lk hkn HD.out.uk, WS.of_own HD.out.v HD.out.lv hvn HD.out.uv, fun B hB => off_own (own_ge HD.out.k) hB, fun B hB => off_own (own_ge HD.out.v) hB⟩

end Go.Proofs.YtmonkcekkhfafaaGreatDoor.Enc

/- EncDict:
  The landed layState of a Dict: how many keys there are, and the table. Conditions: the block for the words lies, the package's table lies, the state's keys are a Dict's.
-/
namespace Go.Proofs.YtmonkcekkhfafaaGreatDoor.Enc
open Go.RowKit (Below intOf)
open Go.Proofs.YtmonkcekkhfafaaGreatDoor.Aut
open Go.Proofs.YtmonkcekkhfafaaGreatDoor.Reg (cf bx)

theorem recT_fst : ∀ ks vs : List Int, vs.length = ks.length → (recT ks vs).map (·.1) = ks.map (· + 1)
  | [], [], _ => rfl
  | k :: ks, v :: vs, h => by
    have := recT_fst ks vs (by simpa using h)
    unfold recT at this ⊢
    simp [this]
  | [], _ :: _, h => by simp at h
  | _ :: _, [], h => by simp at h
theorem recT_valid {ks vs : List Int} (h : vs.length = ks.length) (h0 : ∀ x ∈ ks, 0 ≤ x) (hp : ks.Pairwise (· < ·)) : Prb.valid (recT ks vs) = true := by
  unfold Prb.valid
  rw [Bool.and_eq_true, List.all_eq_true, decide_eq_true_eq]
  refine ⟨fun r hr => ?_, ?_⟩
  · have h1 : r.1 ∈ (recT ks vs).map (·.1) := List.mem_map.2 ⟨r, hr, rfl⟩
    rw [recT_fst ks vs h] at h1
    obtain ⟨x, hx, e⟩ := List.mem_map.1 h1
    have := h0 x hx
    simp only [decide_eq_true_eq]
    omega
  · have e : (recT ks vs).map (fun x => x.1) = ks.map (· + 1) := recT_fst ks vs h
    rw [e]
    refine List.Pairwise.map (R := fun a b : Int => a < b) _ (fun a b hab => ?_) hp
    show a + 1 ≠ b + 1
    omega
theorem foldl_lay_len : ∀ (l t : List (Int × Int)), (l.foldl Prb.layS t).length = t.length
  | [], _ => rfl
  | r :: l, t => by rw [List.foldl_cons, foldl_lay_len l, Prb.layS_len]
theorem tableOf_len (n : Nat) (l : List (Int × Int)) : (Prb.tableOf n l).length = n := by unfold Prb.tableOf; rw [foldl_lay_len]; simp
theorem table_build {ks vs : List Int} {m v : Nat} (h : vs.length = ks.length) (h0 : ∀ x ∈ ks, 0 ≤ x) (hp : ks.Pairwise (· < ·)) (hm : ks.length ≤ m) (m1 : 1 ≤ m) (m2 : m ≤ 256) (hv : v = 1 ∨ v = 2) (ht : Prb.thinB v (recT ks vs) = true) :
    Prb.buildS (2 * (m : Int)) v (recT ks vs) = (Prb.flatW v (Prb.tableOf (2 * m) (recT ks vs)), 0) := by
  unfold Prb.buildS
  have hmay : Prb.mayS (v : Int) (recT ks vs) = true := by unfold Prb.mayS; rw [recT_valid h h0 hp, ht]; rfl
  rw [if_pos ⟨by omega, by omega, by omega, hmay⟩, if_neg (by rw [recT_len h]; omega), show (2 * (m : Int)).toNat = 2 * m by omega, Int.toNat_natCast]
/-- What is laid of a Set, of a Dict. -/
def encS (m : Nat) (s : St) : List Int := [(s.keys.length : Int)] ++ Prb.flatW 1 (Prb.tableOf (2 * m) (recT s.keys (List.replicate s.keys.length 0)))
def encD (m : Nat) (s : St) : List Int := [(s.keys.length : Int)] ++ Prb.flatW 2 (Prb.tableOf (2 * m) (recT s.keys s.vals))
theorem encS_len (m : Nat) (s : St) : (encS m s).length = 1 + 2 * m := by
  unfold encS; rw [List.length_append, Prb.flatW_len (.inl rfl), tableOf_len]; simp
theorem encD_len (m : Nat) (s : St) : (encD m s).length = 1 + 4 * m := by
  unfold encD; rw [List.length_append, Prb.flatW_len (.inr rfl), tableOf_len]; simp; omega
theorem tab_ext {w w' : World} (h : Tab w) (e : Ext w w') : Tab w' := h.ext ⟨e.os, e.tape, e.output, e.size, e.block⟩
theorem keys_plain {k m : Int} {s : St} (hk : k = 2 ∨ k = 3) (h : KeysOk k m s) : s.keys.Pairwise (· < ·) ∧ ∀ x ∈ s.keys, x ≤ 4611686018427387904 := by
  refine ⟨?_, fun x hx => ?_⟩
  · refine h.2.2.2.imp fun {a b} hab => ?_
    unfold ordK at hab
    rwa [if_neg (by omega), if_neg (by omega)] at hab
  · have := (h.2.2.1 x hx).2
    unfold mayK at this
    rwa [if_neg (by omega), decide_eq_true_eq] at this

set_option maxHeartbeats 8000000 in
set_option maxRecDepth 100000 in
theorem lays_dict (p : Int) (m : Nat) (a v t : Sl) (s : St) (w0 w : World) (A n : Nat) (hT : Tab w0) (hL : LP w0 w A n []) (hn : n = 1 + 4 * m) (m1 : 1 ≤ m) (m2 : m ≤ 256) (hS : SS w0 a v t s) (hK : KeysOk 3 m s) :
    Calls Tryz.prog 38 #[cf 3 p m, sv s.reg a v t s.closed, fv A] w (LQ w0 A n (encD m s) w) := by
  have e1 : Ext w ((w.alloc (bx 3 p m)).alloc (sb s.reg a v t s.closed)) := (Ext.new w _).alloc _
  have hA := hL.lt
  have HC : RowKit.Hid (Cb ((w.alloc (bx 3 p m)).alloc (sb s.reg a v t s.closed)) w.heap.size [.int .i64 3, .int .i64 p, .int .i64 (m : Int)]) := Lib.hid ((Cb.new w _ _).alloc _)
  have HB : RowKit.Hid (Cb ((w.alloc (bx 3 p m)).alloc (sb s.reg a v t s.closed)) (w.heap.size + 1) (sc s.reg a v t s.closed)) := Lib.hid (by
    have h := Cb.new (w.alloc (bx 3 p m)) (sc s.reg a v t s.closed) 30
    rwa [World.size_alloc] at h)
  have HL := Lib.hid (hL.kp e1)
  have HK := Lib.hid (Kp.of_ext (A := A) e1)
  have HS := Lib.hid hS
  have HT := Lib.hid hT
  have hkl : s.keys.length ≤ m := by have := hK.1; omega
  have hkn : a.n = s.keys.length := hS.2.1.len.symm
  have hvn : s.vals.length = s.keys.length := by have := hK.2.1; rwa [show valued 3 = true from rfl, if_pos rfl] at this
  obtain ⟨hp, hle⟩ := keys_plain (.inr rfl) hK
  have h0 : ∀ x ∈ s.keys, 0 ≤ x := fun x hx => by
    obtain ⟨j, hj⟩ := List.getElem?_of_mem hx
    exact (hS.2.1.2.2.2.2 j x hj).1.1
  have hbd := table_build (v := 2) hvn h0 hp hkl m1 m2 (.inr rfl) rfl
  have Hbd := Lib.hid hbd
  have Hlt : RowKit.Hid (∀ x ∈ s.keys, x < 18446744073709551615) := Lib.hid fun x hx => by have := hle x hx; omega
  have Hvn := Lib.hid hvn
  have Hkn := Lib.hid hkn
  have Hlen := Lib.hid (encD_len m s)
  have han : a.n ≤ 256 := by omega
  have n1 : w.heap.size + 1 ≠ A := by omega
  have n2 : w.heap.size + 1 ≠ A + 1 := by omega
  have n3 : w.heap.size ≠ A := by omega
  have n4 : w.heap.size ≠ A + 1 := by omega
  have Hne := Lib.hid (And.intro n1 n2)
  have Hne0 := Lib.hid (And.intro n3 n4)
  obtain ⟨sr, sk, su, sw, scl⟩ := s
  clear hL e1 hA hS hK hT n1 n2 n3 n4 hp hle h0 hbd hvn hkl hkn
  dsimp only [cf, bx, sv, sb, sc, encD] at *
  go_enter Tryz.func38, Tryz.ntmps38
  obtain ⟨c0, c1, c2⟩ := HC.out.three
  obtain ⟨s0, s1, s2, s3, s4⟩ := HB.out.five
  go_wp2_with (fail)
  have hI : I64 (a.n : Int) := by unfold I64; omega
  have hl := NS.lit ((w.alloc (.cells #[.int .i64 3, .int .i64 p, .int .i64 (m : Int)] 24)).alloc (.cells #[.int .u64 sr, .slice a.a a.n a.c, .slice v.a v.n v.c, .slice t.a t.n t.c, .bool scl] 30)) (a.n : Int) hI
  simp only [World.size_alloc] at hl
  refine (words_int _ _ _ _ _ hl (fun x hx => by rw [List.mem_singleton.1 hx]; omega)).mono ?_
  rintro e w2 ⟨⟨xa, xn, xc⟩, he, hW, e2, _⟩
  dsimp only at he hW
  subst he
  have e3 := (Ext.new _ (.cells #[.int .i64 (a.n : Int)] 3)).trans e2
  replace HL := Lib.hid (HL.out.kp e3)
  replace HK := Lib.hid (HK.out.trans (Kp.of_ext e3))
  replace HB := Lib.hid (HB.out.ext e3)
  replace HC := Lib.hid (HC.out.ext e3)
  have hx : xn = 1 := by have := hW.len; simpa using this.symm
  subst hx
  have HW := Lib.hid hW
  clear hl hW e2 e3 hI c0 c1 c2 s0 s1 s2 s3 s4
  go_wp2_with (fail)
  refine (lay_pad HL.out HW.out (by decide) (by simp; omega)).mono ?_
  rintro e w3 ⟨he, L3, K3⟩
  subst he
  replace HL := Lib.hid L3
  replace HK := Lib.hid (HK.out.trans K3)
  replace HB := Lib.hid (K3.cb HB.out Hne.out.1 Hne.out.2)
  replace HC := Lib.hid (K3.cb HC.out Hne0.out.1 Hne0.out.2)
  clear HW L3 K3
  obtain ⟨c0, c1, c2⟩ := HC.out.three
  obtain ⟨s0, s1, s2, s3, s4⟩ := HB.out.five
  have HTb := Lib.hid (table_any 3 p m 2 a v sk su w3 (tab_ext HT.out HL.out.e) (HS.out.2.1.ext HL.out.e) (HS.out.2.2.1.ext HL.out.e) Hvn.out m2 han Hlt.out)
  dsimp only [cf] at HTb
  go_wp2_with (fail)
  refine HTb.out.mono ?_
  rintro e w4 ⟨⟨ya, yn, yc⟩, he, hY, e4⟩
  have hbd := Hbd.out
  simp only [Int.cast_ofNat_Int] at hbd
  dsimp only at he hY
  subst he
  rw [hbd] at hY
  have hyn : yn = 4 * m := by
    rw [← hY.len, Prb.flatW_len (.inr rfl), tableOf_len]; omega
  subst hyn
  replace HL := Lib.hid (HL.out.kp e4)
  replace HK := Lib.hid (HK.out.trans (Kp.of_ext e4))
  have HW := Lib.hid hY
  clear hY e4 HTb hbd c0 c1 c2 s0 s1 s2 s3 s4
  go_wp2_with (fail)
  refine (lay_pad HL.out HW.out (by omega) (by simp; omega)).mono ?_
  rintro e w5 ⟨he, L5, K5⟩
  subst he
  replace HL := Lib.hid L5
  replace HK := Lib.hid (HK.out.trans K5)
  clear HW L5 K5
  go_wp2_with (fail)
  go_end0
  have hk := Hkn.out
  refine ⟨rfl, ?_, HK.out⟩
  have := HL.out
  rw [hk] at this
  exact this

theorem enc_dict (p m : Int) (a v t : Sl) (s : St) (w : World) (hT : Reg.Tab w) (hT2 : Tab w) (hS : SS w a v t s) (hR : rightS 3 p m s = true) :
    Calls Tryz.prog 14 #[cf 3 p m, sv s.reg a v t s.closed] w (EnE (encD m.toNat s, 0) w) := by
  have hb := fits_of (right_fits hR)
  obtain ⟨q, rfl⟩ : ∃ q : Nat, m = q := ⟨m.toNat, by omega⟩
  have hK := (right_iff.1 hR).2.2.2.1 rfl
  have hl := encD_len q s
  rw [Int.toNat_natCast]
  refine enc_yes 3 p q a v t s (encD q s) w hT hT2 hS hR (by rw [hl]; simp [Reg.hom]) (fun a v t w0 w A n _ h2 hP hn hs => ?_) (by rw [hl]; omega)
  exact (lays_dict p q a v t s w0 w A n h2 hP (by rw [hn, hl]) (by omega) (by omega) hs hK).mono fun e w' h => h.all hn

end Go.Proofs.YtmonkcekkhfafaaGreatDoor.Enc

/- EncSet:
  The landed layState of a Set: how many keys there are, and the table. Conditions: the block for the words lies, the package's table lies, the state's keys are a Set's.
-/
namespace Go.Proofs.YtmonkcekkhfafaaGreatDoor.Enc
open Go.RowKit (Below intOf)
open Go.Proofs.YtmonkcekkhfafaaGreatDoor.Aut
open Go.Proofs.YtmonkcekkhfafaaGreatDoor.Reg (cf bx)

theorem thin_zeros (ks : List Int) : Prb.thinB ((1 : Nat) : Int) (recT ks (List.replicate ks.length 0)) = true := by
  unfold Prb.thinB
  rw [Bool.or_eq_true]
  refine .inr (List.all_eq_true.2 fun r hr => ?_)
  obtain ⟨j, hj⟩ := List.getElem?_of_mem hr
  have hl := recT_len (ks := ks) (vs := List.replicate ks.length 0) List.length_replicate
  obtain ⟨hj', _⟩ := List.getElem?_eq_some_iff.1 hj
  rw [hl] at hj'
  rw [recT_get (List.getElem?_eq_getElem hj') (List.getElem?_eq_getElem (by rw [List.length_replicate]; exact hj'))] at hj
  cases hj
  simp

set_option maxHeartbeats 8000000 in
set_option maxRecDepth 100000 in
theorem lays_set (p : Int) (m : Nat) (a v t : Sl) (s : St) (w0 w : World) (A n : Nat) (hT : Tab w0) (hL : LP w0 w A n []) (hn : n = 1 + 2 * m) (m1 : 1 ≤ m) (m2 : m ≤ 256) (hS : SS w0 a v t s) (hK : KeysOk 2 m s) :
    Calls Tryz.prog 38 #[cf 2 p m, sv s.reg a v t s.closed, fv A] w (LQ w0 A n (encS m s) w) := by
  have e1 : Ext w ((w.alloc (bx 2 p m)).alloc (sb s.reg a v t s.closed)) := (Ext.new w _).alloc _
  have hA := hL.lt
  have HC : RowKit.Hid (Cb ((w.alloc (bx 2 p m)).alloc (sb s.reg a v t s.closed)) w.heap.size [.int .i64 2, .int .i64 p, .int .i64 (m : Int)]) := Lib.hid ((Cb.new w _ _).alloc _)
  have HB : RowKit.Hid (Cb ((w.alloc (bx 2 p m)).alloc (sb s.reg a v t s.closed)) (w.heap.size + 1) (sc s.reg a v t s.closed)) := Lib.hid (by
    have h := Cb.new (w.alloc (bx 2 p m)) (sc s.reg a v t s.closed) 30
    rwa [World.size_alloc] at h)
  have HL := Lib.hid (hL.kp e1)
  have HK := Lib.hid (Kp.of_ext (A := A) e1)
  have HS := Lib.hid hS
  have HT := Lib.hid hT
  have hkl : s.keys.length ≤ m := by have := hK.1; omega
  have hkn : a.n = s.keys.length := hS.2.1.len.symm
  have hvn : (List.replicate s.keys.length (0 : Int)).length = s.keys.length := List.length_replicate
  obtain ⟨hp, hle⟩ := keys_plain (.inl rfl) hK
  have h0 : ∀ x ∈ s.keys, 0 ≤ x := fun x hx => by
    obtain ⟨j, hj⟩ := List.getElem?_of_mem hx
    exact (hS.2.1.2.2.2.2 j x hj).1.1
  have hbd := table_build (v := 1) hvn h0 hp hkl m1 m2 (.inl rfl) (thin_zeros _)
  have Hbd := Lib.hid hbd
  have Hlt : RowKit.Hid (∀ x ∈ s.keys, x < 18446744073709551615) := Lib.hid fun x hx => by have := hle x hx; omega
  have Hvn := Lib.hid hvn
  have Hkn := Lib.hid hkn
  have Hlen := Lib.hid (encS_len m s)
  have han : a.n ≤ 256 := by omega
  have n1 : w.heap.size + 1 ≠ A := by omega
  have n2 : w.heap.size + 1 ≠ A + 1 := by omega
  have n3 : w.heap.size ≠ A := by omega
  have n4 : w.heap.size ≠ A + 1 := by omega
  have Hne := Lib.hid (And.intro n1 n2)
  have Hne0 := Lib.hid (And.intro n3 n4)
  obtain ⟨sr, sk, su, sw, scl⟩ := s
  clear hL e1 hA hS hK hT n1 n2 n3 n4 hp hle h0 hbd hvn hkl hkn
  dsimp only [cf, bx, sv, sb, sc, encS] at *
  go_enter Tryz.func38, Tryz.ntmps38
  obtain ⟨c0, c1, c2⟩ := HC.out.three
  obtain ⟨s0, s1, s2, s3, s4⟩ := HB.out.five
  go_wp2_with (fail)
  have hI : I64 (a.n : Int) := by unfold I64; omega
  have hl := NS.lit ((w.alloc (.cells #[.int .i64 2, .int .i64 p, .int .i64 (m : Int)] 24)).alloc (.cells #[.int .u64 sr, .slice a.a a.n a.c, .slice v.a v.n v.c, .slice t.a t.n t.c, .bool scl] 30)) (a.n : Int) hI
  simp only [World.size_alloc] at hl
  refine (words_int _ _ _ _ _ hl (fun x hx => by rw [List.mem_singleton.1 hx]; omega)).mono ?_
  rintro e w2 ⟨⟨xa, xn, xc⟩, he, hW, e2, _⟩
  dsimp only at he hW
  subst he
  have e3 := (Ext.new _ (.cells #[.int .i64 (a.n : Int)] 3)).trans e2
  replace HL := Lib.hid (HL.out.kp e3)
  replace HK := Lib.hid (HK.out.trans (Kp.of_ext e3))
  replace HB := Lib.hid (HB.out.ext e3)
  replace HC := Lib.hid (HC.out.ext e3)
  have hx : xn = 1 := by have := hW.len; simpa using this.symm
  subst hx
  have HW := Lib.hid hW
  clear hl hW e2 e3 hI c0 c1 c2 s0 s1 s2 s3 s4
  go_wp2_with (fail)
  refine (lay_pad HL.out HW.out (by decide) (by simp; omega)).mono ?_
  rintro e w3 ⟨he, L3, K3⟩
  subst he
  replace HL := Lib.hid L3
  replace HK := Lib.hid (HK.out.trans K3)
  replace HB := Lib.hid (K3.cb HB.out Hne.out.1 Hne.out.2)
  replace HC := Lib.hid (K3.cb HC.out Hne0.out.1 Hne0.out.2)
  clear HW L3 K3
  obtain ⟨c0, c1, c2⟩ := HC.out.three
  obtain ⟨s0, s1, s2, s3, s4⟩ := HB.out.five
  have hmk := fun W => make_words a.n (by omega) W
  have HZ : RowKit.Hid (WS (w3.drew.alloc (.cells (zerosW a.n) 26)) (some ⟨w3.heap.size, 0, none⟩) a.n a.n (List.replicate a.n 0)) := Lib.hid (WS.of_own (made_own a.n (by omega) w3.drew) List.length_replicate (by omega) (fun x hx => by rw [List.eq_of_mem_replicate hx]; unfold U64; simp))
  have HX := Lib.hid (Ext.trans (Ext.drew (Ext.refl w3)) (Ext.new w3.drew (.cells (zerosW a.n) 26)))
  have HTb := Lib.hid (table_any 2 p m 1 a ⟨some ⟨w3.heap.size, 0, none⟩, a.n, a.n⟩ sk (List.replicate sk.length 0) (w3.drew.alloc (.cells (zerosW a.n) 26)) (tab_ext HT.out (HL.out.e.trans HX.out)) (HS.out.2.1.ext (HL.out.e.trans HX.out)) (by have h := HZ.out; rw [Hkn.out] at h ⊢; exact h) Hvn.out m2 han Hlt.out)
  dsimp only [cf] at HTb
  go_wp2_with (fail)
  refine wp_region_held_drew (S := fun w' => Kp A w3 w') (by kernel_rfl) (Kp.drew (Kp.refl A w3)) (fun hHeld => ?_)
  refine wpAnyH_take (i := 0) (v := fv A) rfl (by kernel_rfl) (by kernel_rfl) (by kernel_rfl) (fun _ _ _ h => h) (Or.inl ⟨by kernel_rfl, ?_⟩) (by assumption) ?_
  · intro w hE
    go_simp
  refine wpAnyH_take (i := 1) (v := .agg #[.int .i64 2, .int .i64 p, .int .i64 (m : Int)]) rfl (by kernel_rfl) (by kernel_rfl) (by kernel_rfl) (fun _ _ _ h => h) (Or.inl ⟨by kernel_rfl, ?_⟩) (by assumption) ?_
  · intro w hE
    have q0 := hE.cell c0 Hne0.out.1 Hne0.out.2
    have q1 := hE.cell c1 Hne0.out.1 Hne0.out.2
    have q2 := hE.cell c2 Hne0.out.1 Hne0.out.2
    go_simp
  refine wpAnyH_take (i := 2) (v := .pointer (some ⟨w.heap.size + 1, 1, none⟩)) rfl (by kernel_rfl) (by kernel_rfl) (by kernel_rfl) (fun _ _ _ h => h) (Or.inl ⟨by kernel_rfl, ?_⟩) (by assumption) ?_
  · intro w hE
    go_simp
  refine wpAnyH_take (i := 3) (v := .slice a.a a.n a.c) rfl (by kernel_rfl) (by kernel_rfl) (by kernel_rfl) (fun _ _ _ h => h) (Or.inl ⟨by kernel_rfl, ?_⟩) (by assumption) ?_
  · intro w hE
    have q0 := hE.cell s1 Hne.out.1 Hne.out.2
    go_simp
  refine wpAnyH_take (i := 4) (v := .pointer (some ⟨w.heap.size + 1, 1, none⟩)) rfl (by kernel_rfl) (by kernel_rfl) (by kernel_rfl) (fun _ _ _ h => h) (Or.inl ⟨by kernel_rfl, ?_⟩) (by assumption) ?_
  · intro w hE
    go_simp
  refine wpAnyH_take (i := 5) (v := .slice a.a a.n a.c) rfl (by kernel_rfl) (by kernel_rfl) (by kernel_rfl) (fun _ _ _ h => h) (Or.inl ⟨by kernel_rfl, ?_⟩) (by assumption) ?_
  · intro w hE
    have q0 := hE.cell s1 Hne.out.1 Hne.out.2
    go_simp
  refine wpAnyH_take (i := 6) (v := .int .i64 (a.n : Int)) rfl (by kernel_rfl) (by kernel_rfl) (by kernel_rfl) (fun _ _ _ h => h) (Or.inl ⟨by kernel_rfl, ?_⟩) (by assumption) ?_
  · intro w hE
    go_simp
  refine wpAnyH_ready (rs := [7]) (by kernel_rfl) (by simp) ?_
  refine AllReadyH.cons rfl (fun K hK => ?_) AllReadyH.nil
  go_simp
  refine hK.out _ _ (hHeld.trans (Kp.of_ext (Ext.new _ _))) (fun hHeld => ?_)
  clear hK K
  refine wpAnyH_ready (rs := [8]) (by kernel_rfl) (by simp) ?_
  refine AllReadyH.cons rfl (fun K hK => ?_) AllReadyH.nil
  go_simp
  refine HTb.out.mono ?_
  rintro e w4 ⟨⟨ya, yn, yc⟩, he, hY, e4⟩
  dsimp only at he hY
  subst he
  refine hK.out _ _ (hHeld.trans (Kp.of_ext e4)) (fun hHeld => ?_)
  clear hK K
  have hbd := Hbd.out
  simp only [Int.cast_ofNat_Int] at hbd
  rw [hbd] at hY
  have hyn : yn = 2 * m := by rw [← hY.len, Prb.flatW_len (.inl rfl), tableOf_len]; omega
  subst hyn
  have HL4 := Lib.hid (HL.out.kp (HX.out.trans e4))
  have HW := Lib.hid hY
  refine wpAnyH_ready (rs := [9]) (by kernel_rfl) (by simp) ?_
  refine AllReadyH.cons rfl (fun K hK => ?_) AllReadyH.nil
  go_simp
  refine (lay_pad HL4.out HW.out (by omega) (by simp; omega)).mono ?_
  rintro e w5 ⟨he, L5, K5⟩
  subst he
  refine hK.out _ _ (hHeld.trans K5) (fun hHeld => ?_)
  clear hK K
  refine wpAnyH_done (by kernel_rfl) ?_ _
  go_simp
  replace HL := Lib.hid L5
  replace HK := Lib.hid (HK.out.trans hHeld)
  clear HL4 HW K5 L5 hHeld HTb HX HZ hmk hY hbd e4 c0 c1 c2 s0 s1 s2 s3 s4
  go_wp2_with (fail)
  go_end0
  have hk := Hkn.out
  refine ⟨rfl, ?_, HK.out⟩
  have := HL.out
  rw [hk, hn] at this
  exact this

theorem enc_set (p m : Int) (a v t : Sl) (s : St) (w : World) (hT : Reg.Tab w) (hT2 : Tab w) (hS : SS w a v t s) (hR : rightS 2 p m s = true) :
    Calls Tryz.prog 14 #[cf 2 p m, sv s.reg a v t s.closed] w (EnE (encS m.toNat s, 0) w) := by
  have hb := fits_of (right_fits hR)
  obtain ⟨q, rfl⟩ : ∃ q : Nat, m = q := ⟨m.toNat, by omega⟩
  have hK := (right_iff.1 hR).2.2.2.1 rfl
  have hl := encS_len q s
  rw [Int.toNat_natCast]
  refine enc_yes 2 p q a v t s (encS q s) w hT hT2 hS hR (by rw [hl]; simp [Reg.hom]) (fun a v t w0 w A n _ h2 hP hn hs => ?_) (by rw [hl]; omega)
  exact (lays_set p q a v t s w0 w A n h2 hP (by rw [hn, hl]) (by omega) (by omega) hs hK).mono fun e w' h => h.all hn

end Go.Proofs.YtmonkcekkhfafaaGreatDoor.Enc

/- EncAny:
  What the landed Enc answers, of every configuration and every state. Conditions: the packages' tables lie; the state's lists are there.
-/
namespace Go.Proofs.YtmonkcekkhfafaaGreatDoor.Enc
open Go.RowKit (Below intOf)
open Go.Proofs.YtmonkcekkhfafaaGreatDoor.Aut
open Go.Proofs.YtmonkcekkhfafaaGreatDoor.Reg (cf bx fits_any)

/-- The words of a right state. -/
def encW (k m : Int) (s : St) : List Int := if k = 1 then encR s else if k = 2 then encS m.toNat s else if k = 3 then encD m.toNat s else if k = 4 then encT m.toNat s else encB s
/-- What Enc answers. -/
def encA (k p m : Int) (s : St) : List Int × Int := if rightS k p m s = true then (encW k m s, 0) else ([], if fits k p m then 1 else 5)
theorem enc_any (k p m : Int) (a v t : Sl) (s : St) (w : World) (hT : Reg.Tab w) (hT2 : Tab w) (hS : SS w a v t s) :
    Calls Tryz.prog 14 #[cf k p m, sv s.reg a v t s.closed] w (EnE (encA k p m s) w) := by
  unfold encA
  by_cases hR : rightS k p m s = true
  · rw [if_pos hR]
    have hb := fits_of (right_fits hR)
    obtain rfl | rfl | rfl | rfl | rfl : k = 1 ∨ k = 2 ∨ k = 3 ∨ k = 4 ∨ k = 5 := by omega
    · exact enc_reg p m a v t s w hT hT2 hS hR
    · exact enc_set p m a v t s w hT hT2 hS hR
    · exact enc_dict p m a v t s w hT hT2 hS hR
    · exact enc_ord p m a v t s w hT hT2 hS hR
    · exact enc_bal p m a v t s w hT hT2 hS hR
  · rw [if_neg hR]
    exact enc_no k p m a v t s w hS (Bool.eq_false_iff.2 hR)

end Go.Proofs.YtmonkcekkhfafaaGreatDoor.Enc

/- EncTakenS:
  The landed taken, of a register, of a Set, of a Dict. Conditions: the words are there, at least one; the package's table lies.
-/
namespace Go.Proofs.YtmonkcekkhfafaaGreatDoor.Enc
open Go.RowKit (Below intOf)
open Go.Proofs.YtmonkcekkhfafaaGreatDoor.Aut
open Go.Proofs.YtmonkcekkhfafaaGreatDoor.Reg (cf bx)

/-- The states that words may be. -/
def takenR (xs : List Int) : St := ⟨xs.getD 0 0, [], [], [], false⟩
def takenS (xs : List Int) : St := ⟨0, keysK (Prb.listS (xs.drop 1) 1), [], [], false⟩
def takenD (xs : List Int) : St := ⟨0, keysK (Prb.listS (xs.drop 1) 2), valsK (Prb.listS (xs.drop 1) 2), [], false⟩
theorem off_nil : ∀ B, OffS nilSl nilSl nilSl B := fun _ => ⟨fun h => absurd h (Nat.lt_irrefl 0), fun h => absurd h (Nat.lt_irrefl 0), fun h => absurd h (Nat.lt_irrefl 0)⟩
theorem box_at (w : World) (k p m v : Int) : Cb ((w.alloc (bx k p m)).alloc (sb v nilSl nilSl nilSl false)) (w.heap.size + 1) (sc v nilSl nilSl nilSl false) := by
  have h := Cb.new (w.alloc (bx k p m)) (sc v nilSl nilSl nilSl false) 30
  rwa [World.size_alloc] at h
theorem box_two (w : World) (k p m : Int) : Cb ((w.alloc (bx k p m)).alloc (sb 0 nilSl nilSl nilSl false)) (w.heap.size + 1) (sc 0 nilSl nilSl nilSl false) := by
  have h := Cb.new (w.alloc (bx k p m)) (sc 0 nilSl nilSl nilSl false) 30
  rwa [World.size_alloc] at h

set_option maxHeartbeats 4000000 in
set_option maxRecDepth 100000 in
theorem taken_reg (p m : Int) (sl : Option Addr) (n c : Nat) (xs : List Int) (w : World) (hl : WS w sl n c xs) (hn : 1 ≤ n) :
    Calls Tryz.prog 40 #[cf 1 p m, .slice sl n c] w (SF (takenR xs) w) := by
  obtain ⟨v, hy, hyu, b, o, hsl, hyc⟩ := hl.get (k := 0) (by omega)
  have hrd : takenR xs = ⟨v, [], [], [], false⟩ := by
    unfold takenR; rw [List.getD_eq_getElem?_getD, hy]; rfl
  rw [hrd]
  have hE : Ext w ((w.alloc (bx 1 p m)).alloc (sb 0 nilSl nilSl nilSl false)) := (Ext.new w _).alloc _
  have HE := Lib.hid hE
  have HB := Lib.hid (box_two w 1 p m)
  obtain ⟨k0, k1, k2⟩ := ((Cb.new w [.int .i64 1, .int .i64 p, .int .i64 m] 24).alloc (sb 0 nilSl nilSl nilSl false)).three
  obtain ⟨r0, r1, r2, r3, r4⟩ := (box_two w 1 p m).five
  have y0 := (box_two w 1 p m).f
  have cd := hE.cell hyc
  have Hv := Lib.hid hyu
  have HN := Lib.hid (box_at w 1 p m v)
  have hn2 : (0 : Int) < n := by omega
  subst hsl
  rw [Nat.add_zero] at cd
  clear hl hy hyu hrd hyc hE
  dsimp only [cf, bx, sb, sc, nilSl] at *
  go_enter Tryz.func40, Tryz.ntmps40
  go_wp2_with (fail)
  obtain ⟨q0, q1, q2, q3, q4⟩ := HN.out.five
  refine bodyPost_ret (v := sv v nilSl nilSl nilSl false) (by simp [results, Tryz.results40, go_sem, q0, q1, q2, q3, q4]) rfl ?_
  exact ⟨(Ext.new w _).alloc _, nilSl, nilSl, nilSl, rfl, ⟨Hv.out, WS.empty _ _ _ (by decide), WS.empty _ _ _ (by decide), NS.empty _ _ _ (by decide)⟩, fun B _ => off_nil B⟩

set_option maxHeartbeats 4000000 in
set_option maxRecDepth 100000 in
theorem taken_set (p m : Int) (sl : Option Addr) (n c : Nat) (xs : List Int) (w : World) (hT : Tab w) (hl : WS w sl n c xs) (hn : 1 ≤ n) :
    Calls Tryz.prog 40 #[cf 2 p m, .slice sl n c] w (SF (takenS xs) w) := by
  have hE : Ext w ((w.alloc (bx 2 p m)).alloc (sb 0 nilSl nilSl nilSl false)) := (Ext.new w _).alloc _
  have HE := Lib.hid hE
  have HB := Lib.hid (box_two w 2 p m)
  obtain ⟨k0, k1, k2⟩ := ((Cb.new w [.int .i64 2, .int .i64 p, .int .i64 m] 24).alloc (sb 0 nilSl nilSl nilSl false)).three
  have hcut : ∀ W, (Instr.sliceAt 27 (.slice sl n c) (some (.int .i64 1)) none none).run Tryz.prog W = .ok (.slice (cutAt 1 sl c 1) (n - 1) (c - 1)) W := fun W => slice_loWS sl n c 1 hn W
  have hLi := Lib.hid (Prb.list_any (cutAt 1 sl c 1) (n - 1) (c - 1) (xs.drop 1) 1 _ (tab_ext hT hE) ((hl.drop hn).ext hE))
  generalize cutAt 1 sl c 1 = ct at *
  obtain ⟨l, hll⟩ : ∃ l, Prb.listS (xs.drop 1) 1 = l := ⟨_, rfl⟩
  have hrd : takenS xs = ⟨0, keysK l, [], [], false⟩ := by unfold takenS; rw [hll]
  rw [hrd]
  rw [hll] at hLi
  clear hl hT hE hll hrd
  dsimp only [cf, bx, sb, sc, nilSl] at *
  go_enter Tryz.func40, Tryz.ntmps40
  go_wp2_with (fail)
  refine hLi.out.mono ?_
  rintro e w1 ⟨⟨sa, sn, sk, rfl, hQ⟩, hE1⟩
  replace HE := Lib.hid (HE.out.trans ⟨hE1.os, hE1.tape, hE1.output, hE1.size, hE1.block⟩)
  replace HB := Lib.hid (HB.out.ext ⟨hE1.os, hE1.tape, hE1.output, hE1.size, hE1.block⟩)
  have HQ := Lib.hid hQ
  have HN := Lib.hid hQ.2.1
  clear hE1 hQ hLi k0 k1 k2
  go_wp2_with (fail)
  refine (keys_any _ _ _ _ _ HQ.out HN.out).mono ?_
  rintro e w2 ⟨hE2, ⟨ka, kn, kc⟩, ⟨va, vn, vc⟩, rfl, hK, hV, hO, _⟩
  have hsz := HE.out.size
  replace HE := Lib.hid (HE.out.trans hE2)
  have HO : RowKit.Hid (∀ B, B < w1.heap.size → Off ka B) := Lib.hid hO
  have hlt := HB.out.lt
  replace HB := Lib.hid (HB.out.ext hE2)
  obtain ⟨r0, r1, r2, r3, r4⟩ := HB.out.five
  have y0 := HB.out.f
  have HK := Lib.hid hK
  clear hE2 hK hV hO HQ HN
  dsimp only at *
  go_wp2_with (fail)
  obtain ⟨q0, q1, q2, q3, q4⟩ := (HB.out.st (.int .u64 0) (.slice ka kn kc) (.slice none 0 0) (.slice none 0 0) (.bool false)).five
  refine bodyPost_ret (v := sv 0 ⟨ka, kn, kc⟩ nilSl nilSl false) (by simp [results, Tryz.results40, go_sem, q0, q1, q2, q3, q4]) rfl ?_
  have hof : ∀ B, B < w1.heap.size → OffS ⟨ka, kn, kc⟩ nilSl nilSl B := fun B hB => ⟨fun _ => HO.out B hB, fun h => absurd h (Nat.lt_irrefl 0), fun h => absurd h (Nat.lt_irrefl 0)⟩
  exact ⟨HE.out.put5 (by omega) 0 ⟨ka, kn, kc⟩ nilSl nilSl false, ⟨ka, kn, kc⟩, nilSl, nilSl, rfl, ss_put5 ⟨by unfold U64; simp, HK.out, WS.empty _ _ _ (by decide), NS.empty _ _ _ (by decide)⟩ (hof _ hlt) 0 ⟨ka, kn, kc⟩ nilSl nilSl false, fun B hB => hof B (by omega)⟩

set_option maxHeartbeats 4000000 in
set_option maxRecDepth 100000 in
theorem taken_dict (p m : Int) (sl : Option Addr) (n c : Nat) (xs : List Int) (w : World) (hT : Tab w) (hl : WS w sl n c xs) (hn : 1 ≤ n) :
    Calls Tryz.prog 40 #[cf 3 p m, .slice sl n c] w (SF (takenD xs) w) := by
  have hE : Ext w ((w.alloc (bx 3 p m)).alloc (sb 0 nilSl nilSl nilSl false)) := (Ext.new w _).alloc _
  have HE := Lib.hid hE
  have HB := Lib.hid (box_two w 3 p m)
  obtain ⟨k0, k1, k2⟩ := ((Cb.new w [.int .i64 3, .int .i64 p, .int .i64 m] 24).alloc (sb 0 nilSl nilSl nilSl false)).three
  have hcut : ∀ W, (Instr.sliceAt 27 (.slice sl n c) (some (.int .i64 1)) none none).run Tryz.prog W = .ok (.slice (cutAt 1 sl c 1) (n - 1) (c - 1)) W := fun W => slice_loWS sl n c 1 hn W
  have hLi := Lib.hid (Prb.list_any (cutAt 1 sl c 1) (n - 1) (c - 1) (xs.drop 1) 2 _ (tab_ext hT hE) ((hl.drop hn).ext hE))
  generalize cutAt 1 sl c 1 = ct at *
  obtain ⟨l, hll⟩ : ∃ l, Prb.listS (xs.drop 1) 2 = l := ⟨_, rfl⟩
  have hrd : takenD xs = ⟨0, keysK l, valsK l, [], false⟩ := by unfold takenD; rw [hll]
  rw [hrd]
  rw [hll] at hLi
  clear hl hT hE hll hrd
  dsimp only [cf, bx, sb, sc, nilSl] at *
  go_enter Tryz.func40, Tryz.ntmps40
  go_wp2_with (fail)
  refine hLi.out.mono ?_
  rintro e w1 ⟨⟨sa, sn, sk, rfl, hQ⟩, hE1⟩
  replace HE := Lib.hid (HE.out.trans ⟨hE1.os, hE1.tape, hE1.output, hE1.size, hE1.block⟩)
  replace HB := Lib.hid (HB.out.ext ⟨hE1.os, hE1.tape, hE1.output, hE1.size, hE1.block⟩)
  have HQ := Lib.hid hQ
  have HN := Lib.hid hQ.2.1
  clear hE1 hQ hLi k0 k1 k2
  go_wp2_with (fail)
  refine (keys_any _ _ _ _ _ HQ.out HN.out).mono ?_
  rintro e w2 ⟨hE2, ⟨ka, kn, kc⟩, ⟨va, vn, vc⟩, rfl, hK, hV, hO, hP⟩
  have hsz := HE.out.size
  replace HE := Lib.hid (HE.out.trans hE2)
  have HO : RowKit.Hid (∀ B, B < w1.heap.size → Off ka B) := Lib.hid hO
  have HP : RowKit.Hid (∀ B, B < w1.heap.size → Off va B) := Lib.hid hP
  have HV := Lib.hid hV
  have hlt := HB.out.lt
  replace HB := Lib.hid (HB.out.ext hE2)
  obtain ⟨r0, r1, r2, r3, r4⟩ := HB.out.five
  have y0 := HB.out.f
  have HK := Lib.hid hK
  clear hE2 hK hV hO hP HQ HN
  dsimp only at *
  go_wp2_with (fail)
  obtain ⟨q0, q1, q2, q3, q4⟩ := (HB.out.st (.int .u64 0) (.slice ka kn kc) (.slice va vn vc) (.slice none 0 0) (.bool false)).five
  refine bodyPost_ret (v := sv 0 ⟨ka, kn, kc⟩ ⟨va, vn, vc⟩ nilSl false) (by simp [results, Tryz.results40, go_sem, q0, q1, q2, q3, q4]) rfl ?_
  have hof : ∀ B, B < w1.heap.size → OffS ⟨ka, kn, kc⟩ ⟨va, vn, vc⟩ nilSl B := fun B hB => ⟨fun _ => HO.out B hB, fun _ => HP.out B hB, fun h => absurd h (Nat.lt_irrefl 0)⟩
  exact ⟨HE.out.put5 (by omega) 0 ⟨ka, kn, kc⟩ ⟨va, vn, vc⟩ nilSl false, ⟨ka, kn, kc⟩, ⟨va, vn, vc⟩, nilSl, rfl, ss_put5 ⟨by unfold U64; simp, HK.out, HV.out, NS.empty _ _ _ (by decide)⟩ (hof _ hlt) 0 ⟨ka, kn, kc⟩ ⟨va, vn, vc⟩ nilSl false, fun B hB => hof B (by omega)⟩

end Go.Proofs.YtmonkcekkhfafaaGreatDoor.Enc

/- EncDecAny:
  What the landed Dec answers of words: its refusals; of registers, Sets, Dicts, ballots. Conditions: the packages' tables lie; the words are there.
-/
namespace Go.Proofs.YtmonkcekkhfafaaGreatDoor.Enc
open Go.RowKit (Below intOf)
open Go.Proofs.YtmonkcekkhfafaaGreatDoor.Aut
open Go.Proofs.YtmonkcekkhfafaaGreatDoor.Reg (cf bx fits_any)

/-- Dec refuses. -/
def DcE (no : Int) (w : World) : Ending → World → Prop := SO zeroS w (fun v => .tuple #[v, .int .i64 no])

set_option maxHeartbeats 4000000 in
set_option maxRecDepth 100000 in
theorem dec_misfit (k p m : Int) (hf : fits k p m = false) (sl : Option Addr) (n c : Nat) (w : World) :
    Calls Tryz.prog 16 #[cf k p m, .slice sl n c] w (DcE 5 w) := by
  have X0 := Lib.hid ((Ext.new w (bx k p m)).alloc (sb 0 nilSl nilSl nilSl false))
  have HC : RowKit.Hid (Cb ((w.alloc (bx k p m)).alloc (sb 0 nilSl nilSl nilSl false)) w.heap.size [.int .i64 k, .int .i64 p, .int .i64 m]) := Lib.hid ((Cb.new w _ _).alloc _)
  have HB := Lib.hid (box_two w k p m)
  have hf' : Reg.fits k p m = false := hf
  have HF : RowKit.Hid (∀ W, Calls Tryz.prog 35 #[cf k p m] W fun e w' => e = .returned (.bool false) ∧ Ext W w') := Lib.hid (fun W => (fits_any k p m W).mono fun _ _ h => ⟨by rw [h.1, hf'], h.2 ▸ Ext.new W _⟩)
  obtain ⟨c0, c1, c2⟩ := HC.out.three
  clear hf hf'
  dsimp only [cf, bx, sb, sc, nilSl, sv] at *
  go_enter Tryz.func16, Tryz.ntmps16
  go_wp2_with (fail)
  refine (HF.out _).mono ?_
  rintro e w1 ⟨rfl, e1⟩
  replace X0 := Lib.hid (X0.out.trans e1)
  replace HB := Lib.hid (HB.out.ext e1)
  clear HF e1 c0 c1 c2 HC
  obtain ⟨r0, r1, r2, r3, r4⟩ := HB.out.five
  have z0 := HB.out.f
  go_wp2_with (fail)
  obtain ⟨q0, q1, q2, q3, q4⟩ := (HB.out.st (.int .u64 0) (.slice none 0 0) (.slice none 0 0) (.slice none 0 0) (.bool false)).five
  refine bodyPost_ret (v := .tuple #[sv 0 nilSl nilSl nilSl false, .int .i64 5]) (by simp [results, Tryz.results16, go_sem, q0, q1, q2, q3, q4]) rfl ?_
  exact ⟨X0.out.put5 (by omega) 0 nilSl nilSl nilSl false, nilSl, nilSl, nilSl, rfl, ss_zero _, fun B _ => offN B⟩

set_option maxHeartbeats 4000000 in
set_option maxRecDepth 100000 in
theorem dec_long (k p m : Int) (hf : fits k p m = true) (sl : Option Addr) (n c : Nat) (w : World) (hT : Reg.Tab w) (hlen : (n : Int) ≠ Reg.hom k m) :
    Calls Tryz.prog 16 #[cf k p m, .slice sl n c] w (DcE 2 w) := by
  have X0 := Lib.hid ((Ext.new w (bx k p m)).alloc (sb 0 nilSl nilSl nilSl false))
  have HC : RowKit.Hid (Cb ((w.alloc (bx k p m)).alloc (sb 0 nilSl nilSl nilSl false)) w.heap.size [.int .i64 k, .int .i64 p, .int .i64 m]) := Lib.hid ((Cb.new w _ _).alloc _)
  have HB := Lib.hid (box_two w k p m)
  have hf' : Reg.fits k p m = true := hf
  have hhm : Reg.home k p m = Reg.hom k m := by unfold Reg.home; rw [if_pos hf']
  have HF : RowKit.Hid (∀ W, Calls Tryz.prog 35 #[cf k p m] W fun e w' => e = .returned (.bool true) ∧ Ext W w') := Lib.hid (fun W => (fits_any k p m W).mono fun _ _ h => ⟨by rw [h.1, hf'], h.2 ▸ Ext.new W _⟩)
  have HHo : RowKit.Hid (∀ W, Ext w W → Calls Tryz.prog 37 #[cf k p m] W fun e w' => e = .returned (.int .i64 (Reg.home k p m)) ∧ Ext W w') := Lib.hid (fun W hE => Reg.home_any k p m W (hT.below hE))
  rw [hhm] at HHo
  generalize Reg.hom k m = hh at *
  have hne : ((n : Int) != hh) = true := by simpa using hlen
  obtain ⟨c0, c1, c2⟩ := HC.out.three
  clear hf hf' hhm hT
  dsimp only [cf, bx, sb, sc, nilSl, sv] at *
  go_enter Tryz.func16, Tryz.ntmps16
  go_wp2_with (fail)
  refine (HF.out _).mono ?_
  rintro e w1 ⟨rfl, e1⟩
  replace X0 := Lib.hid (X0.out.trans e1)
  replace HC := Lib.hid (HC.out.ext e1)
  replace HB := Lib.hid (HB.out.ext e1)
  clear HF e1 c0 c1 c2
  obtain ⟨c0, c1, c2⟩ := HC.out.three
  have HQ := Lib.hid (HHo.out w1 X0.out)
  clear HHo
  go_wp2_with (fail)
  refine HQ.out.mono ?_
  rintro e w2 ⟨rfl, e2⟩
  replace X0 := Lib.hid (X0.out.trans e2)
  replace HB := Lib.hid (HB.out.ext e2)
  clear HQ e2 c0 c1 c2 HC
  obtain ⟨r0, r1, r2, r3, r4⟩ := HB.out.five
  have z0 := HB.out.f
  go_wp2_with (fail)
  obtain ⟨q0, q1, q2, q3, q4⟩ := (HB.out.st (.int .u64 0) (.slice none 0 0) (.slice none 0 0) (.slice none 0 0) (.bool false)).five
  refine bodyPost_ret (v := .tuple #[sv 0 nilSl nilSl nilSl false, .int .i64 2]) (by simp [results, Tryz.results16, go_sem, q0, q1, q2, q3, q4]) rfl ?_
  exact ⟨X0.out.put5 (by omega) 0 nilSl nilSl nilSl false, nilSl, nilSl, nilSl, rfl, ss_zero _, fun B _ => offN B⟩

/-- What words are taken for, but an Order's. -/
def takenW (k m : Int) (xs : List Int) : St := if k = 1 then takenR xs else if k = 2 then takenS xs else if k = 3 then takenD xs else takenB m.toNat xs
/-- What Dec answers. -/
def decA (k p m : Int) (xs : List Int) : St × Int := if fits k p m = true then (if (xs.length : Int) = Reg.hom k m then decR (takenW k m xs) (encA k p m (takenW k m xs)).1 (encA k p m (takenW k m xs)).2 xs else (zeroS, 2)) else (zeroS, 5)
theorem dec_any (k p m : Int) (h4 : k ≠ 4) (sl : Option Addr) (n c : Nat) (xs : List Int) (w : World) (hT : Reg.Tab w) (hT2 : Tab w) (hl : WS w sl n c xs) :
    Calls Tryz.prog 16 #[cf k p m, .slice sl n c] w (SO (decA k p m xs).1 w (fun v => .tuple #[v, .int .i64 (decA k p m xs).2])) := by
  unfold decA
  by_cases hf : fits k p m = true
  · rw [if_pos hf]
    by_cases hlen : (xs.length : Int) = Reg.hom k m
    · rw [if_pos hlen]
      have hlen2 : (n : Int) = Reg.hom k m := by rw [← hl.len]; exact hlen
      refine dec_of k p m hf sl n c xs w hT hl hlen2 (takenW k m xs) _ _ (fun W hE => ?_) (fun W a v t hE hS => enc_any k p m a v t (takenW k m xs) W (hT.below hE) (tab_ext hT2 hE) hS)
      have hb := fits_of hf
      unfold takenW
      obtain rfl | rfl | rfl | rfl : k = 1 ∨ k = 2 ∨ k = 3 ∨ k = 5 := by omega
      · exact taken_reg p m sl n c xs W (hl.ext hE) (by simp [Reg.hom] at hlen2; omega)
      · exact taken_set p m sl n c xs W (tab_ext hT2 hE) (hl.ext hE) (by simp [Reg.hom] at hlen2; omega)
      · exact taken_dict p m sl n c xs W (tab_ext hT2 hE) (hl.ext hE) (by simp [Reg.hom] at hlen2; omega)
      · obtain ⟨q, rfl⟩ : ∃ q : Nat, m = q := ⟨m.toNat, by omega⟩
        exact taken_bal p q (by omega) sl n c xs W (hl.ext hE) (by simp [Reg.hom] at hlen2; omega)
    · rw [if_neg hlen]
      exact dec_long k p m hf sl n c w hT (by rw [← hl.len]; exact hlen)
  · rw [if_neg hf]
    exact dec_misfit k p m (Bool.eq_false_iff.2 hf) sl n c w

end Go.Proofs.YtmonkcekkhfafaaGreatDoor.Enc

/- EncTakenO:
  The landed takenTree: the keys and the values that an Order's words hold. Conditions: the words are there, as many as an Order's.
-/
namespace Go.Proofs.YtmonkcekkhfafaaGreatDoor.Enc
open Go.RowKit (Below intOf)
open Go.Proofs.YtmonkcekkhfafaaGreatDoor.Aut
open Go.Proofs.YtmonkcekkhfafaaGreatDoor.Reg (cf bx)

/-- Two rows that grow, and the box that names them. -/
structure TrL (w wr : World) (ka : Option Addr) (kn kc : Nat) (va : Option Addr) (vn vc : Nat) (xs ys : List Int) : Prop where
  e : Ext w wr
  b : Cb wr (w.heap.size + 1) (sc 0 ⟨ka, kn, kc⟩ ⟨va, vn, vc⟩ nilSl false)
  k : wr.ownsRow (w.heap.size + 2) 26 1 (.slice ka kn kc) kn (flatWS xs)
  v : wr.ownsRow (w.heap.size + 2) 26 1 (.slice va vn vc) vn (flatWS ys)
  a : (Value.slice ka kn kc).ownBlock = none ∨ (Value.slice ka kn kc).ownBlock ≠ (Value.slice va vn vc).ownBlock
  lk : xs.length = kn
  lv : ys.length = vn
  uk : ∀ x ∈ xs, U64 x
  uv : ∀ x ∈ ys, U64 x
  z : w.heap.size + 2 ≤ wr.heap.size
theorem TrL.addK {w wr : World} {ka : Option Addr} {kn kc : Nat} {va : Option Addr} {vn vc : Nat} {xs ys : List Int} (h : TrL w wr ka kn kc va vn vc xs ys) {z : Int} (hz : U64 z) (hn : kn ≤ 1048576) :
    ∃ sx cx wx, RowKit.Hid ((Builtin.append_ #[27, 27] 27 #[.slice ka kn kc, .slice (some ⟨wr.heap.size, 0, none⟩) 1 1]).run Tryz.prog (wr.alloc (.cells #[.int .u64 z] 26)) = .ok (.slice sx (kn + 1) cx) wx) ∧ Cb wx (w.heap.size + 1) (sc 0 ⟨ka, kn, kc⟩ ⟨va, vn, vc⟩ nilSl false) ∧
      TrL w (wx.setCell ⟨w.heap.size + 1, 1, none⟩ (.slice sx (kn + 1) cx)) sx (kn + 1) cx va vn vc (xs ++ [z]) ys := by
  have e3 : Ext wr (wr.alloc (.cells #[.int .u64 z] 26)) := Ext.new wr _
  have hzz := h.z
  have hs := e3.size
  have hk3 := own_ext2 h.k e3
  have hv3 := own_ext2 h.v e3
  obtain ⟨sx, cx, wx, RX, OX, GX, AX⟩ := addWS (ys := xs) hk3 (WS.lit wr z hz) (by omega) (by omega)
  have hge := own_ge h.k
  have cb : ∀ b cs, b < w.heap.size + 2 → Cb wr b cs → Cb wx b cs := fun b cs hb hc => cb_grown (hc.ext e3) GX hge hb
  have hb := cb _ _ (by omega) h.b
  refine ⟨sx, cx, wx, RX, hb, ⟨((h.e.trans e3).grown GX fun k hk => Nat.le_trans (by omega) (hge k hk)).setCell (by omega) _, hb.upd (i := 1) (by simp) _, RowKit.ownsRow_setCell_below OX (a := ⟨w.heap.size + 1, 1, none⟩) (by simp) _, RowKit.ownsRow_setCell_below (hv3.kept GX ?_) (a := ⟨w.heap.size + 1, 1, none⟩) (by simp) _, ?_, by rw [List.length_append, h.lk]; rfl, h.lv, fun x hx => ?_, h.uv, ?_⟩⟩
  · rcases h.a with c | c
    · by_cases d : (Value.slice va vn vc).ownBlock = none
      · exact .inl d
      · exact .inr (by rw [c]; exact d)
    · exact .inr c.symm
  · rcases AX with c | c
    · rw [c]; exact h.a
    · right; rw [c]; intro d
      have := (hv3.lt _ d.symm).2
      omega
  · rcases List.mem_append.1 hx with hx | hx
    · exact h.uk x hx
    · rw [List.mem_singleton.1 hx]; exact hz
  · rw [World.size_setCell]; have := GX.size; omega
theorem TrL.addV {w wr : World} {ka : Option Addr} {kn kc : Nat} {va : Option Addr} {vn vc : Nat} {xs ys : List Int} (h : TrL w wr ka kn kc va vn vc xs ys) {z : Int} (hz : U64 z) (hn : vn ≤ 1048576) :
    ∃ sx cx wx, RowKit.Hid ((Builtin.append_ #[27, 27] 27 #[.slice va vn vc, .slice (some ⟨wr.heap.size, 0, none⟩) 1 1]).run Tryz.prog (wr.alloc (.cells #[.int .u64 z] 26)) = .ok (.slice sx (vn + 1) cx) wx) ∧ Cb wx (w.heap.size + 1) (sc 0 ⟨ka, kn, kc⟩ ⟨va, vn, vc⟩ nilSl false) ∧
      TrL w (wx.setCell ⟨w.heap.size + 1, 2, none⟩ (.slice sx (vn + 1) cx)) ka kn kc sx (vn + 1) cx xs (ys ++ [z]) := by
  have e3 : Ext wr (wr.alloc (.cells #[.int .u64 z] 26)) := Ext.new wr _
  have hzz := h.z
  have hs := e3.size
  have hk3 := own_ext2 h.k e3
  have hv3 := own_ext2 h.v e3
  obtain ⟨sx, cx, wx, RX, OX, GX, AX⟩ := addWS (ys := ys) hv3 (WS.lit wr z hz) (by omega) (by omega)
  have hge := own_ge h.v
  have cb : ∀ b cs, b < w.heap.size + 2 → Cb wr b cs → Cb wx b cs := fun b cs hb hc => cb_grown (hc.ext e3) GX hge hb
  have hb := cb _ _ (by omega) h.b
  refine ⟨sx, cx, wx, RX, hb, ⟨((h.e.trans e3).grown GX fun k hk => Nat.le_trans (by omega) (hge k hk)).setCell (by omega) _, hb.upd (i := 2) (by simp) _, RowKit.ownsRow_setCell_below (hk3.kept GX h.a) (a := ⟨w.heap.size + 1, 2, none⟩) (by simp) _, RowKit.ownsRow_setCell_below OX (a := ⟨w.heap.size + 1, 2, none⟩) (by simp) _, ?_, h.lk, by rw [List.length_append, h.lv]; rfl, h.uk, fun x hx => ?_, ?_⟩⟩
  · rcases AX with c | c
    · rw [c]; exact h.a
    · by_cases d : (Value.slice ka kn kc).ownBlock = none
      · exact .inl d
      · right; rw [c]; intro d
        have := (hk3.lt _ d).2
        omega
  · rcases List.mem_append.1 hx with hx | hx
    · exact h.uv x hx
    · rw [List.mem_singleton.1 hx]; exact hz
  · rw [World.size_setCell]; have := GX.size; omega
theorem TrL.fin {w wr : World} {ka : Option Addr} {kn kc : Nat} {va : Option Addr} {vn vc : Nat} {xs ys : List Int} (h : TrL w wr ka kn kc va vn vc xs ys) (hk : kn ≤ 1048576) (hv : vn ≤ 1048576) :
    Ext w (put5 wr (w.heap.size + 1) 0 ⟨ka, kn, kc⟩ ⟨va, vn, vc⟩ nilSl false) ∧ SS (put5 wr (w.heap.size + 1) 0 ⟨ka, kn, kc⟩ ⟨va, vn, vc⟩ nilSl false) ⟨ka, kn, kc⟩ ⟨va, vn, vc⟩ nilSl ⟨0, xs, ys, [], false⟩ :=
  ⟨h.e.put5 (by omega) _ _ _ _ _, by unfold U64; simp, (WS.of_own h.k h.lk hk h.uk).far5 (off_own (own_ge h.k) (by omega)) _ _ _ _ _, (WS.of_own h.v h.lv hv h.uv).far5 (off_own (own_ge h.v) (by omega)) _ _ _ _ _, NS.empty _ _ _ (by decide)⟩
theorem TrL.off {w wr : World} {ka : Option Addr} {kn kc : Nat} {va : Option Addr} {vn vc : Nat} {xs ys : List Int} (h : TrL w wr ka kn kc va vn vc xs ys) : ∀ B, B < w.heap.size → OffS ⟨ka, kn, kc⟩ ⟨va, vn, vc⟩ nilSl B :=
  fun B hB => ⟨fun _ => off_own (own_ge h.k) (by omega), fun _ => off_own (own_ge h.v) (by omega), fun h => absurd h (Nat.lt_irrefl 0)⟩


/-- How many keys are read of an Order's words. -/
def cntO (m : Nat) (xs : List Int) : Nat := min (xs.getD 0 0).toNat m
def keysO (m : Nat) (xs : List Int) : List Int := (List.range (cntO m xs)).map fun i => wordOf (xs.getD (2 + 4 * i) 0)
def valsO (m : Nat) (xs : List Int) : List Int := (List.range (cntO m xs)).map fun i => xs.getD (2 + 4 * i + 1) 0
def takenO (m : Nat) (xs : List Int) : St := ⟨0, keysO m xs, valsO m xs, [], false⟩
theorem tr0 (w : World) (k p m : Int) : TrL w ((w.alloc (bx k p m)).alloc (sb 0 nilSl nilSl nilSl false)) none 0 0 none 0 0 [] [] :=
  ⟨(Ext.new w _).alloc _, box_two w k p m, World.ownsRow_nil _ _ _ _, World.ownsRow_nil _ _ _ _, .inl rfl, rfl, rfl, fun _ h => by simp at h, fun _ h => by simp at h, by simp⟩

end Go.Proofs.YtmonkcekkhfafaaGreatDoor.Enc

/- EncTakenT:
  The landed takenTree. Conditions: the words are there, as many as an Order's.
-/
namespace Go.Proofs.YtmonkcekkhfafaaGreatDoor.Enc
open Go.RowKit (Below intOf)
open Go.Proofs.YtmonkcekkhfafaaGreatDoor.Aut
open Go.Proofs.YtmonkcekkhfafaaGreatDoor.Reg (cf bx)

theorem TrL.ext {w wr W : World} {ka : Option Addr} {kn kc : Nat} {va : Option Addr} {vn vc : Nat} {xs ys : List Int} (h : TrL w wr ka kn kc va vn vc xs ys) (e : Ext wr W) : TrL w W ka kn kc va vn vc xs ys :=
  ⟨h.e.trans e, h.b.ext e, own_ext2 h.k e, own_ext2 h.v e, h.a, h.lk, h.lv, h.uk, h.uv, Nat.le_trans h.z e.size⟩
theorem range_get {f : Nat → Int} {q i : Nat} (h : i < q) : ((List.range q).map f)[i]? = some (f i) := by
  rw [List.getElem?_map, List.getElem?_range h]; rfl

theorem wordOf_u (x : Int) (h : U64 x) : U64 (wordOf x) := by
  have h0 := h.1
  have h1 := h.2
  unfold wordOf unrank U64
  split <;> (try split) <;> omega

set_option maxHeartbeats 8000000 in
set_option maxRecDepth 100000 in
theorem tree_any (p : Int) (m : Nat) (hm : 1 ≤ m ∧ m ≤ 256) (sl : Option Addr) (n c : Nat) (xs : List Int) (w : World) (hl : WS w sl n c xs) (hn : n = 2 + 4 * m) :
    Calls Tryz.prog 81 #[cf 4 p m, .slice sl n c] w (SF (takenO m xs) w) := by
  obtain ⟨x0, hy, hyu, b, o, hsl, hyc⟩ := hl.get (k := 0) (by omega)
  have D0 := Lib.hid (tr0 w 4 p m)
  have hE : Ext w ((w.alloc (bx 4 p m)).alloc (sb 0 nilSl nilSl nilSl false)) := (Ext.new w _).alloc _
  have cd := hE.cell hyc
  obtain ⟨k0, k1, k2⟩ := ((Cb.new w [.int .i64 4, .int .i64 p, .int .i64 m] 24).alloc (sb 0 nilSl nilSl nilSl false)).three
  have HR := Lib.hid hl
  have hn2 : (0 : Int) < n := by omega
  have hw : IntKind.u64.wrap (m : Int) = m := by simp only [IntKind.wrap_u64]; omega
  obtain ⟨q, hq⟩ : ∃ q, cntO m xs = q := ⟨_, rfl⟩
  have hq2 : (q : Int) = if x0 ≤ (m : Int) then x0 else m := by
    rw [← hq]; unfold cntO; rw [List.getD_eq_getElem?_getD, hy]
    have h1 := hyu.1
    simp only [Option.getD_some]
    split <;> omega
  obtain ⟨KS, hKS⟩ : ∃ l, keysO m xs = l := ⟨_, rfl⟩
  obtain ⟨VS, hVS⟩ : ∃ l, valsO m xs = l := ⟨_, rfl⟩
  have HKg : RowKit.Hid (∀ i, i < q → KS[i]? = some (wordOf (xs.getD (2 + 4 * i) 0))) := Lib.hid fun i hi => by rw [← hKS]; unfold keysO; rw [hq, range_get hi]
  have HVg : RowKit.Hid (∀ i, i < q → VS[i]? = some (xs.getD (2 + 4 * i + 1) 0)) := Lib.hid fun i hi => by rw [← hVS]; unfold valsO; rw [hq, range_get hi]
  have HKl : RowKit.Hid (KS.length = q) := Lib.hid (by rw [← hKS]; unfold keysO; rw [hq]; simp)
  have HVl : RowKit.Hid (VS.length = q) := Lib.hid (by rw [← hVS]; unfold valsO; rw [hq]; simp)
  have hrd : takenO m xs = ⟨0, KS, VS, [], false⟩ := by unfold takenO; rw [hKS, hVS]
  rw [hrd]
  have hqm : q ≤ m := by omega
  have hmin : min x0 (m : Int) = q := by rw [hq2]; split <;> omega
  clear hKS hVS hrd hq hq2
  subst hsl
  rw [Nat.add_zero] at cd
  clear hl hy hyc hE
  dsimp only [cf, bx, sb, nilSl] at *
  have Hn := Lib.hid hn
  clear hn
  go_enter Tryz.func81, Tryz.ntmps81
  go_upto_region 1 with (fail)
  go_quiet (fail)
  go_wp2_with (fail)
  replace D0 := Lib.hid (D0.out.ext (Ext.draws _ nq))
  clear k0 k1 k2 cd
  obtain ⟨sl, hsl2⟩ : ∃ sl, some (⟨b, o, none⟩ : Addr) = sl := ⟨_, rfl⟩
  rw [hsl2] at HR ⊢
  clear hsl2
  go_loopg [17] q (fun kx s17 wr => ∃ (i : Nat) (ka : Option Addr) (kn kc : Nat) (va : Option Addr) (vn vc : Nat), s17 = .int .i64 i ∧ i ≤ q ∧ q - i ≤ kx ∧ RowKit.Hid (TrL w wr ka kn kc va vn vc (KS.take i) (VS.take i)))
  case atStart => exact ⟨0, none, 0, 0, none, 0, 0, rfl, Nat.zero_le _, by omega, Lib.hid (by simpa using D0.out)⟩
  case round =>
    obtain ⟨i, ka, kn, kc, va, vn, vc, rfl, hi, hg, D⟩ := hrel
    clear D0
    have hkn : kn ≤ 1048576 := by have h1 := D.out.lk; rw [List.length_take, HKl.out] at h1; omega
    have hvn : vn ≤ 1048576 := by have h1 := D.out.lv; rw [List.length_take, HVl.out] at h1; omega
    by_cases hlt : i < q
    · have hlt2 : (i : Int) < q := by omega
      have hn := Hn.out
      have hd := HR.out.drop (k := 2 + 4 * i) (by omega)
      have hcut : ∀ W, (Instr.sliceAt 27 (.slice sl n c) (some (.int .i64 (2 + 4 * (i : Int)))) none none).run Tryz.prog W = .ok (.slice (cutAt 1 sl c (2 + 4 * i)) (n - (2 + 4 * i)) (c - (2 + 4 * i))) W := fun W => by
        have h := slice_loWS sl n c (2 + 4 * i) (by omega) W
        rw [show ((2 + 4 * i : Nat) : Int) = 2 + 4 * (i : Int) by omega] at h
        exact h
      have hw4 : IntKind.i64.wrap (4 * (i : Int)) = 4 * (i : Int) := by simp only [IntKind.wrap_i64]; omega
      have hw5 : IntKind.i64.wrap (2 + 4 * (i : Int)) = 2 + 4 * (i : Int) := by simp only [IntKind.wrap_i64]; omega
      obtain ⟨x, hx, hxu, b1, o1, hc1, hxc⟩ := hd.get (k := 0) (by omega)
      obtain ⟨y, hy, hyu2, b2, o2, hc2, hyc⟩ := hd.get (k := 1) (by omega)
      rw [hc1] at hc2 hcut
      cases hc2
      rw [Nat.add_zero] at hxc
      rw [List.getElem?_drop] at hx hy
      rw [Nat.add_zero] at hx
      have hks : KS.take (i + 1) = KS.take i ++ [wordOf x] := take_snoc (by rw [HKg.out i hlt, List.getD_eq_getElem?_getD, hx]; rfl)
      have hvs : VS.take (i + 1) = VS.take i ++ [y] := take_snoc (by rw [HVg.out i hlt, List.getD_eq_getElem?_getD, hy]; rfl)
      have Hks := Lib.hid hks
      have Hvs := Lib.hid hvs
      have hwu : U64 (wordOf x) := wordOf_u x hxu
      have HWd : RowKit.Hid (∀ W, _) := Lib.hid (fun W => word_any x W hxu.1 hxu.2)
      have cx := D.out.e.cell hxc
      have Hyc := Lib.hid hyc
      obtain ⟨n', hn'⟩ : ∃ n', n - (2 + 4 * i) = n' := ⟨_, rfl⟩
      have hn3 : (0 : Int) < n' := by omega
      have hn4 : (1 : Int) < n' := by omega
      rw [hn'] at hcut
      obtain ⟨sk, ck, w1, RK, B1, D2⟩ := D.out.addK hwu hkn
      obtain ⟨t0, t1, t2, t3, t4⟩ := D.out.b.five
      have y1 := B1.c 1 _ rfl
      have z1 := B1.f 1
      obtain ⟨W7, hW7⟩ : ∃ W, (w1.setCell ⟨w.heap.size + 1, 1, none⟩ (.slice sk (kn + 1) ck)) = W := ⟨_, rfl⟩
      rw [hW7] at D2
      have D3 := D2.ext (Ext.drew (Ext.refl W7))
      obtain ⟨_, _, u2, _, _⟩ := D2.b.five
      have u2' := (Ext.new W7 (.cells #[.int .u64 y] 26)).cell u2
      have cy := D2.e.cell hyc
      have cy' := (Ext.new W7 (.cells #[.int .u64 y] 26)).cell cy
      obtain ⟨sv', cv, w2, RV, B2, D4⟩ := D3.addV hyu2 hvn
      replace D4 := Lib.hid D4
      rw [World.size_drew] at RV
      dsimp only at u2 u2'
      have HD3 := Lib.hid D3
      have y2 := B2.c 2 _ rfl
      have z2 := B2.f 2
      have hms : q - (i + 1) < gk := by omega
      clear hn hn' hd hx hy hxc hyc hks hvs hg hwu hxu hyu2 D D2 D3 B1 B2 hc1
      go_upto_region 7 with (first
        | (go_at_call 110; (with_reducible refine (HWd.out _).mono ?_); rintro e w' ⟨rfl, rfl⟩)
        | (at_builtin; refine Lib.wpList_append_run _ rfl (.tmp 33) (.tmp 35) _ _ rfl _ _ rfl rfl _ _ RK.out ?_))
      clear hW7 RK y1 z1 t0 t1 t2 t3 t4 cx hcut HWd
      go_region_law (refine step_append_run _ rfl (.tmp 39) (.tmp 43) _ _ rfl _ _ rfl rfl _ _ RV.out ?_)
      all_goals
        go_wp2_with (fail)
        go_roundg (q - (i + 1))
        case measure => exact hms
        case rel => exact ⟨i + 1, sk, kn + 1, ck, sv', vn + 1, cv, by first | rfl | (congr 1), by omega, by omega, Lib.hid (by rw [Hks.out, Hvs.out]; exact D4.out)⟩
    · obtain rfl : i = q := by omega
      have hlt2 : ¬ (i : Int) < i := by omega
      have hk2 : KS.take i = KS := List.take_of_length_le (by rw [HKl.out]; exact Nat.le_refl _)
      have hv2 : VS.take i = VS := List.take_of_length_le (by rw [HVl.out]; exact Nat.le_refl _)
      have hD := D.out
      rw [hk2, hv2] at hD
      have HOf := Lib.hid hD.off
      have DF := Lib.hid (hD.fin hkn hvn)
      have HB := Lib.hid hD.b
      obtain ⟨r0, r1, r2, r3, r4⟩ := hD.b.five
      have y0 := hD.b.f
      dsimp only [put5] at DF
      clear hD D hk2 hv2 hlt
      go_wp2_with (fail)
      obtain ⟨q0, q1, q2, q3, q4⟩ := (HB.out.st (.int .u64 0) (.slice ka kn kc) (.slice va vn vc) (.slice none 0 0) (.bool false)).five
      refine bodyPost_ret (v := sv 0 ⟨ka, kn, kc⟩ ⟨va, vn, vc⟩ nilSl false) (by simp [results, Tryz.results81, go_sem, q0, q1, q2, q3, q4]) rfl ?_
      exact ⟨DF.out.1, ⟨ka, kn, kc⟩, ⟨va, vn, vc⟩, nilSl, rfl, DF.out.2, HOf.out⟩

end Go.Proofs.YtmonkcekkhfafaaGreatDoor.Enc

