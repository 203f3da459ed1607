/-
  Parts of a proof, one behind the other: EncDecAll, EncMath, EncRef, LawAwakeE, VotesM, ZeroM. Each says its own conditions.
-/
import Derived.Test.YtmonkcekkhfafaaGreatDoorM06
import Derived.Test.YtmonkcekkhfafaaGreatDoorM07
import Derived.Test.YtmonkcekkhfafaaGreatDoorM09
import Derived.Test.YtmonkcekkhfafaaGreatDoorM16
import Derived.Test.YtmonkcekkhfafaaGreatDoorM27
import Derived.Deep.AppendSrc

/- EncDecAll:
  The landed taken of an Order, and Dec of every configuration and all words. Conditions: the packages' tables lie; the words are there.
-/
namespace Go.Proofs.YtmonkcekkhfafaaGreatDoor.Enc
open Go.RowKit (Below intOf)
open Go.Proofs.YtmonkcekkhfafaaGreatDoor.Aut
open Go.Proofs.YtmonkcekkhfafaaGreatDoor.Reg (cf bx fits_any)

set_option maxHeartbeats 4000000 in
set_option maxRecDepth 100000 in
theorem taken_ord (p : Int) (m : Nat) (hm : 1 ≤ m ∧ m ≤ 256) (sl : Option Addr) (n c : Nat) (xs : List Int) (w : World) (hl : WS w sl n c xs) (hn : n = 2 + 4 * m) :
    Calls Tryz.prog 40 #[cf 4 p m, .slice sl n c] w (SF (takenO m xs) w) := by
  have hE : Ext w ((w.alloc (bx 4 p m)).alloc (sb 0 nilSl nilSl nilSl false)) := (Ext.new w _).alloc _
  have HE := Lib.hid hE
  have HB := Lib.hid (box_two w 4 p m)
  obtain ⟨k0, k1, k2⟩ := ((Cb.new w [.int .i64 4, .int .i64 p, .int .i64 m] 24).alloc (sb 0 nilSl nilSl nilSl false)).three
  have hTr := Lib.hid (tree_any p m hm sl n c xs _ (hl.ext hE) hn)
  have hreg : (takenO m xs).reg = 0 := rfl
  have hcl : (takenO m xs).closed = false := rfl
  have Hrv := Lib.hid (And.intro hreg hcl)
  generalize takenO m xs = S at *
  obtain ⟨sr, sk, su, sw, scl⟩ := S
  dsimp only at hreg hcl
  subst hreg
  subst hcl
  clear hl hE Hrv hn
  dsimp only [cf, bx, sb, sc, nilSl] at *
  go_enter Tryz.func40, Tryz.ntmps40
  go_wp2_with (fail)
  refine hTr.out.mono ?_
  rintro e w1 ⟨hE1, ⟨ka, kn, kc⟩, ⟨va, vn, vc⟩, ⟨ta, tn, tc⟩, he, hS, hO⟩
  dsimp only [sv] at he
  subst he
  have hlt := HB.out.lt
  have HO := Lib.hid hO
  replace HE := Lib.hid (HE.out.trans hE1)
  replace HB := Lib.hid (HB.out.ext hE1)
  obtain ⟨r0, r1, r2, r3, r4⟩ := HB.out.five
  have y0 := HB.out.f
  have HS := Lib.hid hS
  have hw0 : w.heap.size + 2 = ((w.alloc (.cells #[.int .i64 4, .int .i64 p, .int .i64 (m : Int)] 24)).alloc (.cells #[.int .u64 0, .slice none 0 0, .slice none 0 0, .slice none 0 0, .bool false] 30)).heap.size := by simp only [World.size_alloc]
  have Hw0 := Lib.hid hw0
  clear hE1 hS hO hTr k0 k1 k2 hw0
  go_wp2_with (fail)
  obtain ⟨q0, q1, q2, q3, q4⟩ := (HB.out.st (.int .u64 0) (.slice ka kn kc) (.slice va vn vc) (.slice ta tn tc) (.bool false)).five
  refine bodyPost_ret (v := sv 0 ⟨ka, kn, kc⟩ ⟨va, vn, vc⟩ ⟨ta, tn, tc⟩ false) (by simp [results, Tryz.results40, go_sem, q0, q1, q2, q3, q4]) rfl ?_
  have hof : ∀ B, B < w.heap.size + 2 → OffS ⟨ka, kn, kc⟩ ⟨va, vn, vc⟩ ⟨ta, tn, tc⟩ B := fun B hB => HO.out B (by rw [← Hw0.out]; exact hB)
  exact ⟨HE.out.put5 (by omega) 0 ⟨ka, kn, kc⟩ ⟨va, vn, vc⟩ ⟨ta, tn, tc⟩ false, ⟨ka, kn, kc⟩, ⟨va, vn, vc⟩, ⟨ta, tn, tc⟩, rfl, ss_put5 HS.out (hof _ (by omega)) 0 ⟨ka, kn, kc⟩ ⟨va, vn, vc⟩ ⟨ta, tn, tc⟩ false, fun B hB => hof B (by omega)⟩

/-- What words are taken for. -/
def takenA (k m : Int) (xs : List Int) : St := if k = 4 then takenO m.toNat xs else takenW k m xs
/-- What Dec answers. -/
def decS (k p m : Int) (xs : List Int) : St × Int := if fits k p m = true then (if (xs.length : Int) = Reg.hom k m then decR (takenA k m xs) (encA k p m (takenA k m xs)).1 (encA k p m (takenA k m xs)).2 xs else (zeroS, 2)) else (zeroS, 5)
theorem dec_all (k p m : Int) (sl : Option Addr) (n c : Nat) (xs : List Int) (w : World) (hT : Reg.Tab w) (hT2 : Tab w) (hl : WS w sl n c xs) :
    Calls Tryz.prog 16 #[cf k p m, .slice sl n c] w (SO (decS k p m xs).1 w (fun v => .tuple #[v, .int .i64 (decS k p m xs).2])) := by
  by_cases h4 : k = 4
  · subst h4
    unfold decS takenA
    rw [if_pos rfl]
    by_cases hf : fits 4 p m = true
    · rw [if_pos hf]
      by_cases hlen : (xs.length : Int) = Reg.hom 4 m
      · rw [if_pos hlen]
        have hlen2 : (n : Int) = Reg.hom 4 m := by rw [← hl.len]; exact hlen
        have hb := fits_of hf
        obtain ⟨q, rfl⟩ : ∃ q : Nat, m = q := ⟨m.toNat, by omega⟩
        rw [Int.toNat_natCast]
        exact dec_of 4 p q hf sl n c xs w hT hl hlen2 (takenO q xs) _ _ (fun W hE => taken_ord p q (by omega) sl n c xs W (hl.ext hE) (by simp [Reg.hom] at hlen2; omega)) (fun W a v t hE hS => enc_any 4 p q a v t (takenO q xs) W (hT.below hE) (tab_ext hT2 hE) hS)
      · rw [if_neg hlen]
        exact dec_long 4 p m hf sl n c w hT (by rw [← hl.len]; exact hlen)
    · rw [if_neg hf]
      exact dec_misfit 4 p m (Bool.eq_false_iff.2 hf) sl n c w
  · have h := dec_any k p m h4 sl n c xs w hT hT2 hl
    have e : decS k p m xs = decA k p m xs := by unfold decS decA takenA; rw [if_neg h4]
    rw [e]; exact h

end Go.Proofs.YtmonkcekkhfafaaGreatDoor.Enc

/- EncMath:
  What the words of a right state are taken for is that state: so unlike states have unlike words. No condition but those that each theorem says: over lists of integers.
-/
namespace Go.Proofs.YtmonkcekkhfafaaGreatDoor.Enc
open Go.RowKit (Below intOf)
open Go.Proofs.YtmonkcekkhfafaaGreatDoor.Aut

theorem recT_snd : ∀ ks vs : List Int, vs.length = ks.length → (recT ks vs).map (·.2) = vs
  | [], [], _ => rfl
  | k :: ks, v :: vs, h => by
    have := recT_snd ks vs (by simpa using h)
    unfold recT at this ⊢
    simp [this]
  | [], _ :: _, h => by simp at h
  | _ :: _, [], h => by simp at h
theorem keysK_rec {ks vs : List Int} (h : vs.length = ks.length) (hu : ∀ x ∈ ks, U64 x) : keysK (recT ks vs) = ks := by
  have e : keysK (recT ks vs) = ((recT ks vs).map (·.1)).map keyOf := by unfold keysK; rw [List.map_map]; rfl
  rw [e, recT_fst ks vs h, List.map_map]
  conv => rhs; rw [← List.map_id ks]
  refine List.map_congr_left fun x hx => ?_
  have := hu x hx
  show keyOf (x + 1) = x
  unfold keyOf
  unfold U64 at this
  omega
theorem rec_good {ks vs : List Int} (h : vs.length = ks.length) (hu : ∀ x ∈ ks, U64 x ∧ x ≤ 4611686018427387904) (hv : ∀ x ∈ vs, U64 x) (hp : ks.Pairwise (· < ·)) : Prb.Good (recT ks vs) := by
  refine (Prb.valid_good fun r hr => ?_).1 (recT_valid h (fun x hx => (hu x hx).1.1) hp)
  have h1 : r.1 ∈ (recT ks vs).map (·.1) := List.mem_map.2 ⟨r, hr, rfl⟩
  have h2 : r.2 ∈ (recT ks vs).map (·.2) := List.mem_map.2 ⟨r, hr, rfl⟩
  rw [recT_fst ks vs h] at h1
  rw [recT_snd ks vs h] at h2
  obtain ⟨x, hx, e⟩ := List.mem_map.1 h1
  have g := hu x hx
  have g2 := hv _ h2
  unfold U64 at g g2
  refine ⟨?_, g2⟩
  show 0 ≤ r.1 ∧ r.1 < 18446744073709551616
  omega
theorem rec_tb {ks vs : List Int} {m v : Nat} (h : vs.length = ks.length) (hu : ∀ x ∈ ks, U64 x ∧ x ≤ 4611686018427387904) (hv : ∀ x ∈ vs, U64 x) (hp : ks.Pairwise (· < ·)) (hm : ks.length ≤ m) (m1 : 1 ≤ m) (m2 : m ≤ 256) (hw : Prb.Wd v) (ht : Prb.thinB (v : Int) (recT ks vs) = true) :
    Prb.Tb v (2 * m) (Prb.flatW v (Prb.tableOf (2 * m) (recT ks vs))) (recT ks vs) :=
  Prb.Tb.make hw (by omega) (by omega) (rec_good h hu hv hp) (by rw [recT_len h]; omega) (Prb.thin_B.1 ht)
theorem rec_list {ks vs : List Int} {m v : Nat} (h : vs.length = ks.length) (hu : ∀ x ∈ ks, U64 x ∧ x ≤ 4611686018427387904) (hv : ∀ x ∈ vs, U64 x) (hp : ks.Pairwise (· < ·)) (hm : ks.length ≤ m) (m1 : 1 ≤ m) (m2 : m ≤ 256) (hw : Prb.Wd v) (ht : Prb.thinB (v : Int) (recT ks vs) = true) :
    Prb.listS (Prb.flatW v (Prb.tableOf (2 * m) (recT ks vs))) v = recT ks vs := by
  rw [(rec_tb h hu hv hp hm m1 m2 hw ht).list]
  refine (Prb.sortK_one (rec_good h hu hv hp).one (List.Perm.refl _) ?_).symm
  have e := recT_fst ks vs h
  have hp2 : ((recT ks vs).map (·.1)).Pairwise (· < ·) := by
    rw [e]
    exact List.Pairwise.map (R := fun a b : Int => a < b) _ (fun a b hab => by show a + 1 < b + 1; omega) hp
  rw [List.pairwise_map] at hp2
  exact hp2.imp fun {a b} hab => by unfold Prb.leK; rw [decide_eq_true_eq]; omega

/-- What is right, kind by kind. -/
theorem right_reg {p m : Int} {s : St} (h : rightS 1 p m s = true) : s = ⟨s.reg, [], [], [], false⟩ ∧ canon s.reg = s.reg := by
  unfold rightS at h
  simp only [Bool.and_eq_true, if_true, decide_eq_true_eq] at h
  obtain ⟨_, ⟨_, h2, h3⟩, h4⟩ := h
  obtain ⟨r, a, b, c, d⟩ := s
  rcases h2 with h2 | ⟨rfl, rfl⟩
  · exact absurd h2 (by decide)
  rcases h3 with h3 | ⟨rfl, rfl⟩
  · exact absurd h3 (by decide)
  exact ⟨rfl, h4⟩
theorem right_keyed {k p m : Int} {s : St} (hk : k = 2 ∨ k = 3 ∨ k = 4) (h : rightS k p m s = true) : s = ⟨0, s.keys, s.vals, [], false⟩ ∧ KeysOk k m s := by
  have hkd : keyed k = true := by unfold keyed; rw [decide_eq_true_eq]; exact hk
  unfold rightS at h
  rw [hkd, if_neg (by omega), if_pos rfl] at h
  simp only [Bool.and_eq_true, decide_eq_true_eq] at h
  obtain ⟨_, ⟨h1, _, h3⟩, h4⟩ := h
  obtain ⟨r, a, b, c, d⟩ := s
  rcases h1 with h1 | rfl
  · omega
  rcases h3 with h3 | ⟨rfl, rfl⟩
  · omega
  exact ⟨rfl, h4⟩
theorem right_bal {p m : Int} {s : St} (h : rightS 5 p m s = true) : s = ⟨0, [], [], s.votes, s.closed⟩ ∧ VotesOk m s := by
  unfold rightS at h
  rw [if_neg (by decide), show keyed 5 = false from rfl] at h
  simp only [Bool.and_eq_true, decide_eq_true_eq, Bool.false_eq_true, if_false] at h
  obtain ⟨_, ⟨h1, h2, _⟩, h4⟩ := h
  obtain ⟨r, a, b, c, d⟩ := s
  rcases h1 with h1 | rfl
  · exact absurd h1 (by decide)
  rcases h2 with h2 | ⟨rfl, rfl⟩
  · exact absurd h2 (by decide)
  exact ⟨rfl, h4⟩

/-! Orders. -/
theorem quads_at : ∀ (rs vs : List Int) (ps : List (Int × Int)), vs.length = rs.length → ps.length = rs.length → ∀ i, i < rs.length → (quads rs vs ps)[4 * i]? = rs[i]? ∧ (quads rs vs ps)[4 * i + 1]? = vs[i]? ∧ (quads rs vs ps)[4 * i + 2]? = ps[i]?.map (·.1) ∧ (quads rs vs ps)[4 * i + 3]? = ps[i]?.map (·.2)
  | [], [], [], _, _, i, hi => absurd hi (Nat.not_lt_zero i)
  | r :: rs, v :: vs, p :: ps, h1, h2, 0, _ => ⟨rfl, rfl, rfl, rfl⟩
  | r :: rs, v :: vs, p :: ps, h1, h2, i + 1, hi => by
    have h := quads_at rs vs ps (by simpa using h1) (by simpa using h2) i (by simpa using hi)
    simp only [quads, List.getElem?_cons_succ]
    exact h
  | [], _ :: _, _, h1, _, _, _ => by simp at h1
  | _ :: _, [], _, h1, _, _, _ => by simp at h1
  | [], [], _ :: _, _, h2, _, _ => by simp at h2
  | _ :: _, _ :: _, [], _, h2, _, _ => by simp at h2
theorem encO_at {m : Nat} {s : St} (h : KeysOk 4 m s) {i : Nat} (hi : i < s.keys.length) : (encT m s)[2 + 4 * i]? = s.keys[i]?.map rank ∧ (encT m s)[2 + 4 * i + 1]? = s.vals[i]? ∧ (encT m s)[2 + 4 * i + 2]? = (Trp.tree (ranksO s) 0).2[i]?.map (·.1) ∧ (encT m s)[2 + 4 * i + 3]? = (Trp.tree (ranksO s) 0).2[i]?.map (·.2) := by
  have hv := h.2.1
  rw [show valued 4 = true from rfl, if_pos rfl] at hv
  have hr : (ranksO s).length = s.keys.length := by unfold ranksO; rw [List.length_map]
  have hl := Trp.tree_len s.keys.length (ranksO s) 0 hr
  have hq := quads_at (ranksO s) s.vals (Trp.tree (ranksO s) 0).2 (by omega) (by omega) i (by omega)
  have hlen := encO_len h
  have go : ∀ j, j < 4 → (encT m s)[2 + 4 * i + j]? = (quads (ranksO s) s.vals (Trp.tree (ranksO s) 0).2)[4 * i + j]? := fun j hj => by
    unfold encT
    rw [List.getElem?_append_left (by omega)]
    unfold encO
    rw [List.getElem?_append_right (by show 2 ≤ _; omega)]
    congr 1
    show 2 + 4 * i + j - 2 = _
    omega
  refine ⟨?_, ?_, ?_, ?_⟩
  · rw [show 2 + 4 * i = 2 + 4 * i + 0 from rfl, go 0 (by decide), Nat.add_zero, hq.1]; unfold ranksO; rw [List.getElem?_map]
  · rw [go 1 (by decide), hq.2.1]
  · rw [go 2 (by decide), hq.2.2.1]
  · rw [go 3 (by decide), hq.2.2.2]
theorem encT_0 (m : Nat) (s : St) : (encT m s)[0]? = some (s.keys.length : Int) ∧ (encT m s)[1]? = some (Trp.tree (ranksO s) 0).1 := by
  unfold encT encO; exact ⟨rfl, rfl⟩
theorem takenO_enc {m : Nat} {s : St} (h : KeysOk 4 m s) (hs : s = ⟨0, s.keys, s.vals, [], false⟩) (hu : Aut.Wd s) : takenO m (encT m s) = s := by
  have hv := h.2.1
  rw [show valued 4 = true from rfl, if_pos rfl] at hv
  have hkm : s.keys.length ≤ m := by have := h.1; omega
  have hc : cntO m (encT m s) = s.keys.length := by
    unfold cntO
    rw [List.getD_eq_getElem?_getD, (encT_0 m s).1, Option.getD_some]
    omega
  have hk : keysO m (encT m s) = s.keys := by
    unfold keysO
    rw [hc]
    refine eq_all (n := s.keys.length) (by simp) rfl fun j hj => ?_
    rw [range_get hj, List.getD_eq_getElem?_getD, (encO_at h hj).1, List.getElem?_eq_getElem hj]
    have hm := List.getElem_mem hj
    have hx := hu.2.1 _ hm
    have hcn := (h.2.2.1 _ hm).1
    unfold meantK at hcn
    rw [if_pos rfl] at hcn
    rw [Option.map_some, Option.getD_some, wordOf_rank _ hx.1 hx.2, hcn]
  have hvs : valsO m (encT m s) = s.vals := by
    unfold valsO
    rw [hc]
    refine eq_all (n := s.keys.length) (by simp) hv fun j hj => ?_
    rw [range_get hj, List.getD_eq_getElem?_getD, (encO_at h hj).2.1, List.getElem?_eq_getElem (by omega : j < s.vals.length)]
    rfl
  unfold takenO
  rw [hk, hvs]
  exact hs.symm

/-- Dec undoes Enc. -/
theorem taken_enc {k p m : Int} {s : St} (hR : rightS k p m s = true) (hu : Aut.Wd s) : takenA k m (encW k m s) = s := by
  have hb := fits_of (right_fits hR)
  obtain ⟨q, rfl⟩ : ∃ q : Nat, m = q := ⟨m.toNat, by omega⟩
  obtain rfl | rfl | rfl | rfl | rfl : k = 1 ∨ k = 2 ∨ k = 3 ∨ k = 4 ∨ k = 5 := by omega
  · obtain ⟨h1, _⟩ := right_reg hR
    show takenR (encR s) = s
    rw [h1]; rfl
  · obtain ⟨h1, h2⟩ := right_keyed (.inl rfl) hR
    obtain ⟨hp, hle⟩ := keys_plain (.inl rfl) h2
    have hv : s.vals = [] := List.eq_nil_of_length_eq_zero (by rw [h2.2.1]; rfl)
    show takenS (encS q s) = s
    have hd : (encS q s).drop 1 = Prb.flatW 1 (Prb.tableOf (2 * q) (recT s.keys (List.replicate s.keys.length 0))) := rfl
    have hl := rec_list (ks := s.keys) (vs := List.replicate s.keys.length 0) (m := q) (v := 1) List.length_replicate (fun x hx => ⟨hu.2.1 x hx, hle x hx⟩) (fun x hx => by rw [List.eq_of_mem_replicate hx]; unfold U64; simp) hp (by have := h2.1; omega) (by omega) (by omega) (.inl rfl) (thin_zeros _)
    rw [Int.natCast_one] at hl
    unfold takenS
    rw [hd, hl, keysK_rec List.length_replicate hu.2.1]
    conv => rhs; rw [h1, hv]
  · obtain ⟨h1, h2⟩ := right_keyed (.inr (.inl rfl)) hR
    obtain ⟨hp, hle⟩ := keys_plain (.inr rfl) h2
    have hv : s.vals.length = s.keys.length := by have := h2.2.1; rwa [show valued 3 = true from rfl, if_pos rfl] at this
    show takenD (encD q s) = s
    have hd : (encD q s).drop 1 = Prb.flatW 2 (Prb.tableOf (2 * q) (recT s.keys s.vals)) := rfl
    have hl := rec_list (ks := s.keys) (vs := s.vals) (m := q) (v := 2) hv (fun x hx => ⟨hu.2.1 x hx, hle x hx⟩) hu.2.2.1 hp (by have := h2.1; omega) (by omega) (by omega) (.inr rfl) rfl
    rw [show ((2 : Nat) : Int) = 2 from rfl] at hl
    unfold takenD
    rw [hd, hl, keysK_rec hv hu.2.1]
    unfold valsK
    rw [recT_snd _ _ hv]
    conv => rhs; rw [h1]
  · obtain ⟨h1, h2⟩ := right_keyed (.inr (.inr rfl)) hR
    exact takenO_enc h2 h1 hu
  · obtain ⟨h1, h2⟩ := right_bal hR
    have hl : s.votes.length = q := by have := h2.1; omega
    show takenB q (encB s) = s
    have hd : ((encB s).drop 1).take q = s.votes := by
      show (s.votes ++ (counts s.votes).drop 1).take q = _
      rw [← hl, List.take_left]
    have hv : s.votes.map asI = s.votes := by
      conv => rhs; rw [← List.map_id s.votes]
      refine List.map_congr_left fun x hx => ?_
      have := h2.2 x hx
      unfold asI RowKit.wrap64
      show _ = x
      omega
    have hc : ((encB s).getD 0 0 != 0) = s.closed := by
      show (bitZ s.closed != 0) = s.closed
      cases s.closed <;> rfl
    unfold takenB
    rw [hd, hv, hc]
    exact h1.symm
theorem encW_len {k p m : Int} {s : St} (hR : rightS k p m s = true) : ((encW k m s).length : Int) = Reg.hom k m := by
  have hb := fits_of (right_fits hR)
  obtain ⟨q, rfl⟩ : ∃ q : Nat, m = q := ⟨m.toNat, by omega⟩
  obtain rfl | rfl | rfl | rfl | rfl : k = 1 ∨ k = 2 ∨ k = 3 ∨ k = 4 ∨ k = 5 := by omega
  · rfl
  · show ((encS q s).length : Int) = 1 + 2 * (q : Int)
    rw [encS_len]; omega
  · show ((encD q s).length : Int) = 1 + 4 * (q : Int)
    rw [encD_len]; omega
  · show ((encT q s).length : Int) = 2 + 4 * (q : Int)
    rw [encT_len (right_keyed (.inr (.inr rfl)) hR).2]; omega
  · show ((encB s).length : Int) = 9 + (q : Int)
    have := (right_bal hR).2.1
    unfold encB
    rw [List.length_append, List.length_append, List.length_drop, counts_len]
    simp only [List.length_cons, List.length_nil]
    omega
theorem encA_ok {k p m : Int} {s : St} (hR : rightS k p m s = true) : encA k p m s = (encW k m s, 0) := by unfold encA; rw [if_pos hR]
theorem dec_enc {k p m : Int} {s : St} (hR : rightS k p m s = true) (hu : Aut.Wd s) : decS k p m (encW k m s) = (s, 0) := by
  unfold decS
  rw [if_pos (right_fits hR), if_pos (encW_len hR), taken_enc hR hu, encA_ok hR]
  unfold decR
  rw [if_pos ⟨rfl, rfl⟩]
theorem encW_inj {k p m : Int} {s t : St} (hs : rightS k p m s = true) (ht : rightS k p m t = true) (us : Aut.Wd s) (ut : Aut.Wd t) : encW k m s = encW k m t ↔ s = t := by
  refine ⟨fun h => ?_, fun h => by rw [h]⟩
  rw [← taken_enc hs us, h, taken_enc ht ut]
/-- What Dec tells of words as many as there are at home. -/
theorem dec_inv {k p m : Int} {xs : List Int} (hf : fits k p m = true) (hl : (xs.length : Int) = Reg.hom k m) : (∃ t, decS k p m xs = (t, 0) ∧ rightS k p m t = true ∧ encW k m t = xs) ∨ decS k p m xs = (zeroS, 2) := by
  unfold decS
  rw [if_pos hf, if_pos hl]
  unfold decR encA
  by_cases hR : rightS k p m (takenA k m xs) = true
  · rw [if_pos hR]
    by_cases he : encW k m (takenA k m xs) = xs
    · exact .inl ⟨_, if_pos ⟨rfl, he⟩, hR, he⟩
    · exact .inr (if_neg fun c => he c.2)
  · rw [if_neg hR]
    exact .inr (if_neg fun c => by rw [hf] at c; exact absurd c.1 (by decide))

end Go.Proofs.YtmonkcekkhfafaaGreatDoor.Enc

/- EncRef:
  What the document's Words and Zero return: whether two lists are the same, whether all words of one are 0. Condition: the lists are there.
-/
namespace Go.Proofs.YtmonkcekkhfafaaGreatDoor.Enc
open Go.RowKit (Below intOf)
open Go.Proofs.YtmonkcekkhfafaaGreatDoor.Aut
open Go.Proofs.YtmonkcekkhfafaaGreatDoor.Reg (cf bx)

set_option maxHeartbeats 1000000 in
/-- The document's words: whether two lists are the same. -/
theorem rwords_any (s1 s2 : Option Addr) (n m c1 c2 : Nat) (xs ys : List Int) (r : Bool) (w : World) (h1 : WS w s1 n c1 xs) (h2 : WS w s2 m c2 ys) (hr : RowKit.Hid (r = decide (xs = ys))) :
    Calls Tryz.prog 15 #[.slice s1 n c1, .slice s2 m c2] w fun e w' => e = .returned (.bool r) ∧ Ext w w' := by
  have hn := h1.le
  have hm := h2.le
  have H1 := Lib.hid h1
  have H2 := Lib.hid h2
  clear h1 h2
  by_cases hnm : n = m
  · subst hnm
    go_enter Tryz.func15, Tryz.ntmps15
    go_wp2_with (fail)
    go_loopw [5] (fun i w' => ∃ k q : Nat, k ≤ n ∧ i = .int .i64 k ∧ w' = w.drewN q ∧ RowKit.Hid (∀ j, j < k → xs[j]? = ys[j]?)) (fun i _ => n - (intOf i).toNat)
    case atStart => exact ⟨0, 0, by omega, rfl, rfl, Lib.hid (fun j hj => by omega)⟩
    case round =>
      obtain ⟨k, q, hk, rfl, rfl, hz⟩ := hrel
      by_cases hlt : k < n
      · obtain ⟨p, hx, _, b, o, rfl, hc⟩ := H1.out.get hlt
        obtain ⟨p', hy, _, b2, o2, rfl, hd⟩ := H2.out.get hlt
        have HX := Lib.hid hx
        have HY := Lib.hid hy
        clear hx hy
        by_cases hp : p = p'
        · subst hp
          have hb1 : (p != p) = false := by simp
          go_wp2_with (fail)
          go_quiet (fail)
          go_wp2
          go_roundw
          case rel => exact ⟨k + 1, q + nq, by omega, by go_num, rfl, Lib.hid (fun j hj => by
            by_cases e : j = k
            · subst e; rw [HX.out, HY.out]
            · exact hz.out j (by omega))⟩
          case measure => simp [intOf]; omega
        · have hb : (p != p') = true := by simpa using hp
          have HN : RowKit.Hid (p ≠ p') := Lib.hid hp
          clear hp
          go_wp2_with (fail)
          go_quiet (fail)
          go_wp2
          go_ret
          exact ⟨ret_bool (by rw [hr.out, decide_eq_false (ne_at HX.out HY.out HN.out)]), (Ext.draws w q).drewN nq⟩
      · obtain rfl : k = n := by omega
        go_wp2
        go_ret
        exact ⟨ret_bool (by rw [hr.out, decide_eq_true (eq_all H1.out.len H2.out.len hz.out)]), Ext.draws w q⟩
  · have hb : ((n : Int) != (m : Int)) = true := by simp; omega
    have hb2 : (n != m) = true := by simpa using hnm
    go_enter Tryz.func15, Tryz.ntmps15
    go_wp2
    go_ret
    exact ⟨ret_bool (by rw [hr.out, decide_eq_false (fun e => hnm (by rw [← H1.out.len, ← H2.out.len, e]))]), Ext.refl w⟩

set_option maxHeartbeats 1000000 in
theorem zero_any (sl : Option Addr) (n c : Nat) (xs : List Int) (r : Bool) (w : World) (h1 : WS w sl n c xs) (hr : RowKit.Hid (r = decide (∀ x ∈ xs, x = 0))) :
    Calls Tryz.prog 21 #[.slice sl n c] w fun e w' => e = .returned (.bool r) ∧ Ext w w' := by
  have hn := h1.le
  have H1 := Lib.hid h1
  clear h1
  go_enter Tryz.func21, Tryz.ntmps21
  go_wp2_with (fail)
  go_loopw [3] (fun i w' => ∃ k q : Nat, k ≤ n ∧ i = .int .i64 k ∧ w' = w.drewN q ∧ RowKit.Hid (∀ j x, j < k → xs[j]? = some x → x = 0)) (fun i _ => n - (intOf i).toNat)
  case atStart => exact ⟨0, 0, by omega, rfl, rfl, Lib.hid (fun j x hj => by omega)⟩
  case round =>
    obtain ⟨k, q, hk, rfl, rfl, hz⟩ := hrel
    by_cases hlt : k < n
    · obtain ⟨p, hx, _, b, o, rfl, hc⟩ := H1.out.get hlt
      have HX := Lib.hid hx
      clear hx
      by_cases hp : p = 0
      · subst hp
        go_wp2_with (fail)
        go_roundw
        case rel => exact ⟨k + 1, q, by omega, by go_num, rfl, Lib.hid (fun j x hj hx => by
          by_cases e : j = k
          · subst e; rw [HX.out] at hx; cases hx; rfl
          · exact hz.out j x (by omega) hx)⟩
        case measure => simp [intOf]; omega
      · have hb : (p != 0) = true := by simpa using hp
        have HN : RowKit.Hid (p ≠ 0) := Lib.hid hp
        clear hp
        go_wp2_with (fail)
        go_ret
        exact ⟨ret_bool (by rw [hr.out, decide_eq_false (fun c => HN.out (c p (List.mem_of_getElem? HX.out)))]), Ext.draws w q⟩
    · obtain rfl : k = n := by omega
      go_wp2
      go_ret
      exact ⟨ret_bool (by rw [hr.out, decide_eq_true (fun x hx => by
        obtain ⟨j, hj⟩ := List.getElem?_of_mem hx
        obtain ⟨hj2, _⟩ := List.getElem?_eq_some_iff.1 hj
        exact hz.out j x (by rw [← H1.out.len]; exact hj2) hj)]), Ext.draws w q⟩

end Go.Proofs.YtmonkcekkhfafaaGreatDoor.Enc

/- LawAwakeE:
  The laws' first calls, whose answers are fixed: they are as they are to be. Conditions: the packages' tables lie.
-/
namespace Go.Proofs.YtmonkcekkhfafaaGreatDoor.Enc
open Go.RowKit (Below intOf)
open Go.Proofs.YtmonkcekkhfafaaGreatDoor.Aut
open Go.Proofs.YtmonkcekkhfafaaGreatDoor.Reg (cf bx fits_any)

def awB : St := ⟨0, [], [], [0, 3], false⟩
def awO : St := ⟨0, [0], [9], [], false⟩
def awP : St := ⟨0, [0], [], [], false⟩
def awX : List Int := [0, 0, 3, 0, 0, 1, 0, 0, 0, 0, 0]
def awY : List Int := [0, 0, 3, 0, 0, 0, 0, 0, 0, 0, 0]
def awZ : List Int := [1, 1, 9223372036854775808, 9, 0, 0, 0, 0, 0, 0]
theorem aw_1 : encA 5 1 2 awB = (awX, 0) := by decide +kernel
theorem aw_2 : decS 5 1 2 awX = (awB, 0) := by decide +kernel
theorem aw_3 : decS 5 1 2 awY = (zeroS, 2) := by decide +kernel
theorem aw_4 : encA 4 1 2 awO = (awZ, 0) := by
  unfold encA
  rw [if_pos (by decide +kernel)]
  show (encT 2 awO, (0 : Int)) = _
  have hr : ranksO awO = [9223372036854775808] := by decide +kernel
  unfold encT encO
  rw [hr, Trp.tree_some (by decide)]
  simp only [Trp.top, List.take, List.drop, Trp.tree_nil, awO, awZ]
  rfl
theorem aw_5 : encA 4 1 2 awP = ([], 1) := by
  unfold encA
  rw [if_neg (by decide +kernel)]
  rfl
theorem aw_6 : encA 0 0 0 zeroS = ([], 5) := by
  unfold encA
  rw [if_neg (by decide +kernel)]
  rfl
theorem u_all {l : List Int} (h : l.all (fun x => decide (0 ≤ x ∧ x < 18446744073709551616)) = true) : ∀ x ∈ l, U64 x := fun x hx => by
  have := List.all_eq_true.1 h x hx
  exact (of_decide_eq_true this : 0 ≤ x ∧ x < 18446744073709551616)
theorem i_all {l : List Int} (h : l.all (fun x => decide (-9223372036854775808 ≤ x ∧ x < 9223372036854775808)) = true) : ∀ x ∈ l, I64 x := fun x hx => by
  have := List.all_eq_true.1 h x hx
  exact (of_decide_eq_true this : -9223372036854775808 ≤ x ∧ x < 9223372036854775808)

set_option maxHeartbeats 8000000 in
set_option maxRecDepth 100000 in
theorem awake_any (w : World) (hR : Reg.Tab w) (hM : Tab w) : Calls Tryz.prog 9 #[] w fun e w' => e = .returned (.bool true) ∧ Ext w w' := by
  have HR : RowKit.Hid (∀ W, Ext w W → Reg.Tab W ∧ Tab W) := Lib.hid fun W hE => ⟨hR.below hE, tab_ext hM hE⟩
  have HEn : RowKit.Hid (∀ k p m a v t s W, Ext w W → SS W a v t s → Calls Tryz.prog 14 #[cf k p m, sv s.reg a v t s.closed] W (EnE (encA k p m s) W)) := Lib.hid fun k p m a v t s W hE hS => enc_any k p m a v t s W (HR.out W hE).1 (HR.out W hE).2 hS
  have HDe : RowKit.Hid (∀ k p m sl n c xs W, Ext w W → WS W sl n c xs → Calls Tryz.prog 16 #[cf k p m, .slice sl n c] W (SO (decS k p m xs).1 W (fun v => .tuple #[v, .int .i64 (decS k p m xs).2]))) := Lib.hid fun k p m sl n c xs W hE hl => dec_all k p m sl n c xs W (HR.out W hE).1 (HR.out W hE).2 hl
  have HX := Lib.hid ((Ext.new w (bx 5 1 2)).alloc (.cells #[.int .i64 0, .int .i64 3] 3))
  have HC := Lib.hid ((Cb.new w [.int .i64 5, .int .i64 1, .int .i64 2] 24).alloc (.cells #[.int .i64 0, .int .i64 3] 3))
  have HS : RowKit.Hid (SS ((w.alloc (bx 5 1 2)).alloc (.cells #[.int .i64 0, .int .i64 3] 3)) nilSl nilSl ⟨some ⟨w.heap.size + 1, 0, none⟩, 2, 2⟩ awB) := Lib.hid ⟨by unfold U64; decide, WS.empty _ _ _ (by decide), WS.empty _ _ _ (by decide), by
    have := NS.row (w.alloc (bx 5 1 2)) [0, 3] 2 rfl (by decide) (i_all (by decide)) _ rfl
    rw [World.size_alloc] at this
    exact this⟩
  clear hR hM
  dsimp only [cf, bx, sv, nilSl] at *
  go_enter Tryz.func9, Tryz.ntmps9
  go_wp2_with (fail)
  have hQ := HEn.out 5 1 2 _ _ _ _ _ HX.out HS.out
  rw [aw_1] at hQ
  refine hQ.mono ?_
  rintro e w1 ⟨⟨a1, n1, c1⟩, rfl, W1, e1⟩
  dsimp only at W1
  clear hQ HS
  replace HX := Lib.hid (HX.out.trans e1)
  replace HC := Lib.hid (HC.out.ext e1)
  have HW := Lib.hid W1
  clear e1 W1
  obtain ⟨b0, b1, b2⟩ := HC.out.three
  have HL := Lib.hid (WS.row w1 awX 11 rfl (by decide) (u_all (by decide)) #[.int .u64 0, .int .u64 0, .int .u64 3, .int .u64 0, .int .u64 0, .int .u64 1, .int .u64 0, .int .u64 0, .int .u64 0, .int .u64 0, .int .u64 0] rfl)
  go_wp2_with (fail)
  have hQ := HDe.out 5 1 2 _ _ _ _ _ (HX.out.alloc _) HL.out
  rw [aw_2] at hQ
  refine hQ.mono ?_
  rintro e w2 ⟨e2, ⟨ka, kn, kc⟩, ⟨va, vn, vc⟩, ⟨ta, tn, tc⟩, rfl, S2, _⟩
  have E := (((Ext.new w1 _).trans e2).alloc (.cells #[.int .u64 0, .slice ka kn kc, .slice va vn vc, .slice ta tn tc, .bool false] 30))
  replace HX := Lib.hid (HX.out.trans E)
  replace HC := Lib.hid (HC.out.ext E)
  replace HW := Lib.hid (HW.out.ext E)
  have HB := Lib.hid (Cb.new w2 (sc 0 ⟨ka, kn, kc⟩ ⟨va, vn, vc⟩ ⟨ta, tn, tc⟩ false) 30)
  have HS := Lib.hid (S2.ext (Ext.new w2 (.cells #[.int .u64 0, .slice ka kn kc, .slice va vn vc, .slice ta tn tc, .bool false] 30)))
  clear hQ HL E e2 S2 b0 b1 b2
  dsimp only [sb, sc, awB] at *
  obtain ⟨b0, b1, b2⟩ := HC.out.three
  have HL : RowKit.Hid (WS ((w2.alloc (.cells #[.int .u64 0, .slice ka kn kc, .slice va vn vc, .slice ta tn tc, .bool false] 30)).alloc (.cells #[.int .u64 0, .int .u64 0, .int .u64 3, .int .u64 0, .int .u64 0, .int .u64 0, .int .u64 0, .int .u64 0, .int .u64 0, .int .u64 0, .int .u64 0] 26)) (some ⟨w2.heap.size + 1, 0, none⟩) 11 11 awY) := Lib.hid (by
    have := WS.row (w2.alloc (.cells #[.int .u64 0, .slice ka kn kc, .slice va vn vc, .slice ta tn tc, .bool false] 30)) awY 11 rfl (by decide) (u_all (by decide)) #[.int .u64 0, .int .u64 0, .int .u64 3, .int .u64 0, .int .u64 0, .int .u64 0, .int .u64 0, .int .u64 0, .int .u64 0, .int .u64 0, .int .u64 0] rfl
    rw [World.size_alloc] at this
    exact this)
  go_wp2_with (fail)
  have hQ := HDe.out 5 1 2 _ _ _ _ _ (HX.out.alloc _) HL.out
  rw [aw_3] at hQ
  refine hQ.mono ?_
  rintro e w3 ⟨e2, ⟨kb, kp, kd⟩, ⟨vb, vp, vd⟩, ⟨tb, tp, td⟩, rfl, S2, _⟩
  have E := (((Ext.new _ _).trans e2).alloc (.cells #[.int .u64 0, .slice kb kp kd, .slice vb vp vd, .slice tb tp td, .bool false] 30)).alloc (.cells #[.int .i64 4, .int .i64 1, .int .i64 2] 24)
  replace HX := Lib.hid (HX.out.trans E)
  replace HW := Lib.hid (HW.out.ext E)
  replace HB := Lib.hid (HB.out.ext E)
  replace HS := Lib.hid (HS.out.ext E)
  have HC : RowKit.Hid (Cb ((w3.alloc (.cells #[.int .u64 0, .slice kb kp kd, .slice vb vp vd, .slice tb tp td, .bool false] 30)).alloc (.cells #[.int .i64 4, .int .i64 1, .int .i64 2] 24)) (w3.heap.size + 1) [.int .i64 4, .int .i64 1, .int .i64 2]) := Lib.hid (by
    have := Cb.new (w3.alloc (.cells #[.int .u64 0, .slice kb kp kd, .slice vb vp vd, .slice tb tp td, .bool false] 30)) [.int .i64 4, .int .i64 1, .int .i64 2] 24
    rw [World.size_alloc] at this
    exact this)
  clear hQ HL E e2 S2 b0 b1 b2
  dsimp only [zeroS] at *
  obtain ⟨b0, b1, b2⟩ := HC.out.three
  go_wp2_with (fail)
  have hz : (((w3.alloc (.cells #[.int .u64 0, .slice kb kp kd, .slice vb vp vd, .slice tb tp td, .bool false] 30)).alloc (.cells #[.int .i64 4, .int .i64 1, .int .i64 2] 24))).heap.size = w3.heap.size + 1 + 1 := by rw [World.size_alloc, World.size_alloc]
  have HS1 : RowKit.Hid (SS (((((w3.alloc (.cells #[.int .u64 0, .slice kb kp kd, .slice vb vp vd, .slice tb tp td, .bool false] 30)).alloc (.cells #[.int .i64 4, .int .i64 1, .int .i64 2] 24))).alloc (.cells #[.int .u64 0] 26)).alloc (.cells #[.int .u64 9] 26)) ⟨some ⟨w3.heap.size + 1 + 1, 0, none⟩, 1, 1⟩ ⟨some ⟨w3.heap.size + 1 + 1 + 1, 0, none⟩, 1, 1⟩ nilSl awO) := Lib.hid (by
    have k1 := (WS.lit ((w3.alloc (.cells #[.int .u64 0, .slice kb kp kd, .slice vb vp vd, .slice tb tp td, .bool false] 30)).alloc (.cells #[.int .i64 4, .int .i64 1, .int .i64 2] 24)) 0 (by unfold U64; decide)).ext (Ext.new _ (.cells #[.int .u64 9] 26))
    have k2 := WS.lit ((((w3.alloc (.cells #[.int .u64 0, .slice kb kp kd, .slice vb vp vd, .slice tb tp td, .bool false] 30)).alloc (.cells #[.int .i64 4, .int .i64 1, .int .i64 2] 24))).alloc (.cells #[.int .u64 0] 26)) 9 (by unfold U64; decide)
    rw [World.size_alloc, hz] at k2
    rw [hz] at k1
    exact ⟨by unfold U64; decide, k1, k2, NS.empty _ _ _ (by decide)⟩)
  have hQ := HEn.out 4 1 2 _ _ _ _ _ ((HX.out.alloc _).alloc _) HS1.out
  rw [aw_4] at hQ
  refine hQ.mono ?_
  rintro e w5 ⟨⟨a5, n5, c5⟩, rfl, W5, e5⟩
  dsimp only at W5
  have E := ((Ext.new ((w3.alloc (.cells #[.int .u64 0, .slice kb kp kd, .slice vb vp vd, .slice tb tp td, .bool false] 30)).alloc (.cells #[.int .i64 4, .int .i64 1, .int .i64 2] 24)) (.cells #[.int .u64 0] 26)).alloc (.cells #[.int .u64 9] 26)).trans e5
  replace HX := Lib.hid (HX.out.trans E)
  replace HC := Lib.hid (HC.out.ext E)
  replace HW := Lib.hid (HW.out.ext E)
  replace HB := Lib.hid (HB.out.ext E)
  replace HS := Lib.hid (HS.out.ext E)
  have HV := Lib.hid W5
  clear hQ HS1 E e5 W5 hz b0 b1 b2
  obtain ⟨b0, b1, b2⟩ := HC.out.three
  go_wp2_with (fail)
  have HS1 : RowKit.Hid (SS (w5.alloc (.cells #[.int .u64 0] 26)) ⟨some ⟨w5.heap.size, 0, none⟩, 1, 1⟩ nilSl nilSl awP) := Lib.hid ⟨by unfold U64; decide, WS.lit w5 0 (by unfold U64; decide), WS.empty _ _ _ (by decide), NS.empty _ _ _ (by decide)⟩
  have hQ := HEn.out 4 1 2 _ _ _ _ _ (HX.out.alloc _) HS1.out
  rw [aw_5] at hQ
  refine hQ.mono ?_
  rintro e w6 ⟨⟨a6, n6, c6⟩, rfl, W6, e6⟩
  have E := (Ext.new w5 (.cells #[.int .u64 0] 26)).trans e6
  replace HX := Lib.hid (HX.out.trans E)
  replace HW := Lib.hid (HW.out.ext E)
  replace HV := Lib.hid (HV.out.ext E)
  replace HB := Lib.hid (HB.out.ext E)
  replace HS := Lib.hid (HS.out.ext E)
  clear hQ HS1 E e6 W6 HC b0 b1 b2
  go_wp2_with (fail)
  have hQ := HEn.out 0 0 0 nilSl nilSl nilSl zeroS w6 HX.out (ss_zero _)
  rw [aw_6] at hQ
  refine hQ.mono ?_
  rintro e w7 ⟨⟨a7, n7, c7⟩, rfl, W7, E⟩
  replace HX := Lib.hid (HX.out.trans E)
  replace HW := Lib.hid (HW.out.ext E)
  replace HV := Lib.hid (HV.out.ext E)
  replace HB := Lib.hid (HB.out.ext E)
  replace HS := Lib.hid (HS.out.ext E)
  clear hQ E W7
  obtain ⟨q0, q1, q2, q3, q4⟩ := HB.out.five
  go_wp2_with (fail)
  have HL := Lib.hid (WS.row w7 awX 11 rfl (by decide) (u_all (by decide)) #[.int .u64 0, .int .u64 0, .int .u64 3, .int .u64 0, .int .u64 0, .int .u64 1, .int .u64 0, .int .u64 0, .int .u64 0, .int .u64 0, .int .u64 0] rfl)
  refine (rwords_any _ _ _ _ _ _ awX awX true _ (HW.out.ext (Ext.new _ _)) HL.out (Lib.hid (by decide))).mono ?_
  rintro e w8 ⟨rfl, e8⟩
  have E := (Ext.new w7 (.cells #[.int .u64 0, .int .u64 0, .int .u64 3, .int .u64 0, .int .u64 0, .int .u64 1, .int .u64 0, .int .u64 0, .int .u64 0, .int .u64 0, .int .u64 0] 26)).trans e8
  replace HX := Lib.hid (HX.out.trans E)
  replace HV := Lib.hid (HV.out.ext E)
  replace HB := Lib.hid (HB.out.ext E)
  replace HS := Lib.hid (HS.out.ext E)
  clear HL E e8 q0 q1 q2 q3 q4 HW
  obtain ⟨q0, q1, q2, q3, q4⟩ := HB.out.five
  go_wp2_with (fail)
  have HS1 : RowKit.Hid (SS (w8.alloc (.cells #[.int .i64 0, .int .i64 3] 3)) nilSl nilSl ⟨some ⟨w8.heap.size, 0, none⟩, 2, 2⟩ awB) := Lib.hid ⟨by unfold U64; decide, WS.empty _ _ _ (by decide), WS.empty _ _ _ (by decide), NS.row w8 [0, 3] 2 rfl (by decide) (i_all (by decide)) _ rfl⟩
  refine (same_any _ _ _ nilSl nilSl ⟨some ⟨w8.heap.size, 0, none⟩, 2, 2⟩ _ awB true _ (HS.out.ext (Ext.new _ _)) HS1.out (Lib.hid (by decide))).mono ?_
  rintro e w9 ⟨rfl, e9⟩
  have E := (Ext.new w8 (.cells #[.int .i64 0, .int .i64 3] 3)).trans e9
  replace HX := Lib.hid (HX.out.trans E)
  replace HV := Lib.hid (HV.out.ext E)
  clear HS1 E e9 q0 q1 q2 q3 q4 HB HS
  go_wp2_with (fail)
  have HL := Lib.hid (WS.row w9 awZ 10 rfl (by decide) (u_all (by decide)) #[.int .u64 1, .int .u64 1, .int .u64 9223372036854775808, .int .u64 9, .int .u64 0, .int .u64 0, .int .u64 0, .int .u64 0, .int .u64 0, .int .u64 0] rfl)
  refine (rwords_any _ _ _ _ _ _ awZ awZ true _ (HV.out.ext (Ext.new _ _)) HL.out (Lib.hid (by decide))).mono ?_
  rintro e w10 ⟨rfl, e10⟩
  replace HX := Lib.hid ((HX.out.alloc (.cells #[.int .u64 1, .int .u64 1, .int .u64 9223372036854775808, .int .u64 9, .int .u64 0, .int .u64 0, .int .u64 0, .int .u64 0, .int .u64 0, .int .u64 0] 26)).trans e10)
  clear HL HV e10
  go_wp2_with (fail)
  go_ret
  exact ⟨rfl, HX.out⟩

end Go.Proofs.YtmonkcekkhfafaaGreatDoor.Enc

/- VotesM:
  How the words of ballots differ: a vote turns two words, closing one; what tallies say all together is how many have voted. No condition but those that each theorem says: over lists of integers.
-/
namespace Go.Proofs.YtmonkcekkhfafaaGreatDoor.Enc
open Go.RowKit (Below intOf)
open Go.Proofs.YtmonkcekkhfafaaGreatDoor.Aut

/-- In how many places two lists differ. -/
def difN (a b : List Int) (i : Nat) : Nat := (List.range i).countP fun j => decide (a.getD j 0 ≠ b.getD j 0)
theorem difN_le (a b : List Int) (i : Nat) : difN a b i ≤ i := by
  have := List.countP_le_length (p := fun j => decide (a.getD j 0 ≠ b.getD j 0)) (l := List.range i)
  rw [List.length_range] at this; exact this
theorem difN_step (a b : List Int) (i : Nat) : difN a b (i + 1) = difN a b i + if a.getD i 0 ≠ b.getD i 0 then 1 else 0 := by
  unfold difN
  rw [List.range_succ, List.countP_append, List.countP_singleton]
  simp only [decide_eq_true_eq]
def manyN (a : List Int) (m : Nat) (i : Nat) : Nat := (List.range i).countP fun j => decide (0 < j ∧ j ≤ m ∧ a.getD j 0 ≠ 0)
theorem manyN_le (a : List Int) (m i : Nat) : manyN a m i ≤ i := by
  have := List.countP_le_length (p := fun j => decide (0 < j ∧ j ≤ m ∧ a.getD j 0 ≠ 0)) (l := List.range i)
  rw [List.length_range] at this; exact this
theorem manyN_step (a : List Int) (m i : Nat) : manyN a m (i + 1) = manyN a m i + if 0 < i ∧ i ≤ m ∧ a.getD i 0 ≠ 0 then 1 else 0 := by
  unfold manyN
  rw [List.range_succ, List.countP_append, List.countP_singleton]
  simp only [decide_eq_true_eq]
def sumN (a : List Int) (m : Nat) (i : Nat) : Int := ((List.range i).map fun j => if m < j then a.getD j 0 else 0).sum
theorem sumN_step (a : List Int) (m i : Nat) : sumN a m (i + 1) = sumN a m i + if m < i then a.getD i 0 else 0 := by
  unfold sumN
  rw [List.range_succ, List.map_append, List.sum_append]
  simp

theorem countP_none {n p : Nat} (h : n ≤ p) : (List.range n).countP (fun j => decide (j = p)) = 0 := List.countP_eq_zero.2 fun j hj => by
  have := List.mem_range.1 hj
  rw [decide_eq_true_eq]; omega
theorem countP_one : ∀ {n p : Nat}, p < n → (List.range n).countP (fun j => decide (j = p)) = 1
  | n + 1, p, h => by
    rw [List.range_succ, List.countP_append, List.countP_singleton]
    by_cases e : n = p
    · subst e; rw [countP_none (Nat.le_refl _)]; simp
    · rw [countP_one (show p < n by omega)]; simp [e]
theorem difN_zero {a b : List Int} (h : a = b) (i : Nat) : difN a b i = 0 := by
  subst h
  unfold difN
  exact List.countP_eq_zero.2 fun j _ => by simp
theorem difN_one {a b : List Int} {n p : Nat} (hp : p < n) (h : ∀ j, j < n → (a.getD j 0 ≠ b.getD j 0 ↔ j = p)) : difN a b n = 1 := by
  refine Eq.trans ?_ (countP_one hp)
  unfold difN
  exact List.countP_congr fun j hj => by
    rw [decide_eq_true_eq, decide_eq_true_eq]; exact h j (List.mem_range.1 hj)
theorem difN_two {a b : List Int} {n p q : Nat} (hp : p < q) (hq : q < n) (h : ∀ j, j < n → (a.getD j 0 ≠ b.getD j 0 ↔ j = p ∨ j = q)) : difN a b n = 2 := by
  have e : n = p + 1 + (n - (p + 1)) := by omega
  unfold difN
  rw [e, List.range_add, List.countP_append, List.countP_map]
  have h1 : (List.range (p + 1)).countP (fun j => decide (a.getD j 0 ≠ b.getD j 0)) = 1 := by
    refine Eq.trans ?_ (countP_one (Nat.lt_succ_self p))
    refine List.countP_congr fun j hj => ?_
    have hj := List.mem_range.1 hj
    rw [decide_eq_true_eq, decide_eq_true_eq, h j (by omega)]
    omega
  have h2 : (List.range (n - (p + 1))).countP ((fun j => decide (a.getD j 0 ≠ b.getD j 0)) ∘ fun x => p + 1 + x) = 1 := by
    refine Eq.trans ?_ (countP_one (show q - (p + 1) < n - (p + 1) by omega))
    refine List.countP_congr fun j hj => ?_
    have hj := List.mem_range.1 hj
    show decide (a.getD (p + 1 + j) 0 ≠ b.getD (p + 1 + j) 0) = true ↔ _
    rw [decide_eq_true_eq, decide_eq_true_eq, h _ (by omega)]
    omega
  rw [h1, h2]

/-! Ballots. -/
theorem encB_get (s : St) (j : Nat) : (encB s).getD j 0 = if j = 0 then bitZ s.closed else if j ≤ s.votes.length then s.votes.getD (j - 1) 0 else if j < s.votes.length + 9 then (tallyL s.votes ((j - s.votes.length : Nat) : Int) : Int) else 0 := by
  unfold encB
  match j with
  | 0 => rfl
  | j + 1 =>
    rw [if_neg (by omega)]
    show (s.votes ++ (counts s.votes).drop 1).getD j 0 = _
    rw [List.getD_eq_getElem?_getD]
    by_cases h : j < s.votes.length
    · rw [List.getElem?_append_left h, if_pos (by omega), List.getD_eq_getElem?_getD]; rfl
    · rw [List.getElem?_append_right (by omega), if_neg (by omega), List.getElem?_drop]
      by_cases h9 : j + 1 < s.votes.length + 9
      · rw [if_pos h9, counts_get _ (by omega)]
        show ((tallyL s.votes ((1 + (j - s.votes.length) : Nat) : Int) : Nat) : Int) = _
        congr 2
        omega
      · rw [if_neg h9, List.getElem?_eq_none (by rw [counts_len]; omega)]; rfl
theorem tally_set : ∀ (l : List Int) (i : Nat) (v k : Int), l[i]? = some 0 → k ≠ 0 → tallyL (l.set i v) k = tallyL l k + if v = k then 1 else 0
  | [], i, v, k, h, _ => by simp at h
  | x :: l, 0, v, k, h, hk => by
    obtain rfl : x = 0 := by simpa using h
    unfold tallyL
    simp only [List.set_cons_zero, List.countP_cons, decide_eq_true_eq]
    rw [if_neg (Ne.symm hk), Nat.add_zero]
  | x :: l, i + 1, v, k, h, hk => by
    have := tally_set l i v k (by simpa using h) hk
    unfold tallyL at this ⊢
    simp only [List.set_cons_succ, List.countP_cons, this]
    omega
/-- A vote turns two words. -/
theorem dif_cast {s : St} {m q : Nat} {v : Int} (hl : s.votes.length = m) (hq : q < m) (h0 : s.votes[q]? = some 0) (hv : 1 ≤ v ∧ v ≤ 8) : difN (encB s) (encB { s with votes := s.votes.set q v }) (m + 9) = 2 := by
  obtain ⟨k, rfl⟩ : ∃ k : Nat, v = k := ⟨v.toNat, by omega⟩
  refine difN_two (p := q + 1) (q := m + k) (by omega) (by omega) fun j hj => ?_
  rw [encB_get, encB_get]
  dsimp only
  rw [List.length_set, hl]
  by_cases j0 : j = 0
  · rw [if_pos j0, if_pos j0]; constructor
    · intro h; exact absurd rfl h
    · intro h; omega
  rw [if_neg j0, if_neg j0]
  by_cases j1 : j ≤ m
  · rw [if_pos j1, if_pos j1, List.getD_eq_getElem?_getD, List.getD_eq_getElem?_getD]
    by_cases e : q = j - 1
    · subst e
      rw [h0, List.getElem?_set_self (by omega)]
      show (0 : Int) ≠ (k : Int) ↔ _
      omega
    · rw [List.getElem?_set_ne e]
      constructor
      · intro h; exact absurd rfl h
      · intro h; omega
  · rw [if_neg j1, if_neg j1, if_pos hj, if_pos hj, tally_set _ _ _ _ h0 (by omega)]
    by_cases e : (k : Int) = ((j - m : Nat) : Int)
    · rw [if_pos e]; omega
    · rw [if_neg e]; omega
/-- Closing turns one. -/
theorem dif_close {s : St} {m : Nat} (hl : s.votes.length = m) : difN (encB s) (encB { s with closed := true }) (m + 9) = if s.closed then 0 else 1 := by
  cases hc : s.closed with
  | true => 
    rw [if_pos rfl]
    refine difN_zero ?_ _
    obtain ⟨a, b, c, d, e⟩ := s
    dsimp only at hc
    subst hc; rfl
  | false =>
    rw [if_neg (by decide)]
    refine difN_one (p := 0) (by omega) fun j hj => ?_
    rw [encB_get, encB_get, hc]
    dsimp only
    by_cases j0 : j = 0
    · rw [if_pos j0, if_pos j0]
      exact ⟨fun _ => j0, fun _ => by decide⟩
    · rw [if_neg j0, if_neg j0]
      exact ⟨fun h => absurd rfl h, fun h => absurd h j0⟩
theorem tally_sum : ∀ l : List Int, (∀ v ∈ l, 0 ≤ v ∧ v ≤ 8) → tallyL l 1 + tallyL l 2 + tallyL l 3 + tallyL l 4 + tallyL l 5 + tallyL l 6 + tallyL l 7 + tallyL l 8 = l.countP fun v => decide (v ≠ 0)
  | [], _ => rfl
  | x :: l, h => by
    have h1 := tally_sum l fun v hv => h v (List.mem_cons_of_mem _ hv)
    have hx := h x List.mem_cons_self
    unfold tallyL at h1 ⊢
    simp only [List.countP_cons, decide_eq_true_eq]
    rw [← h1]
    obtain rfl | rfl | rfl | rfl | rfl | rfl | rfl | rfl | rfl : x = 0 ∨ x = 1 ∨ x = 2 ∨ x = 3 ∨ x = 4 ∨ x = 5 ∨ x = 6 ∨ x = 7 ∨ x = 8 := by omega
    all_goals simp
    all_goals omega
theorem getD_map (l : List Int) : (List.range l.length).map (fun j => l.getD j 0) = l := by
  refine eq_all (n := l.length) (by simp) rfl fun j hj => ?_
  rw [range_get hj, List.getElem?_eq_getElem hj, List.getD_eq_getElem?_getD, List.getElem?_eq_getElem hj]; rfl
theorem many_is {s : St} {m : Nat} (hl : s.votes.length = m) : manyN (encB s) m (m + 9) = s.votes.countP fun v => decide (v ≠ 0) := by
  have e : m + 9 = 1 + (m + 8) := by omega
  unfold manyN
  rw [e, List.range_add, List.countP_append, show List.range (m + 8) = List.range m ++ (List.range 8).map (m + ·) from List.range_add, List.map_append, List.countP_append, List.map_map, List.countP_map, List.countP_map]
  have h1 : (List.range 1).countP (fun j => decide (0 < j ∧ j ≤ m ∧ (encB s).getD j 0 ≠ 0)) = 0 := List.countP_eq_zero.2 fun j hj => by
    have := List.mem_range.1 hj
    rw [decide_eq_true_eq]; omega
  have h3 : (List.range 8).countP ((fun j => decide (0 < j ∧ j ≤ m ∧ (encB s).getD j 0 ≠ 0)) ∘ ((fun x => 1 + x) ∘ fun x => m + x)) = 0 := List.countP_eq_zero.2 fun j hj => by
    show ¬ decide (0 < 1 + (m + j) ∧ 1 + (m + j) ≤ m ∧ _) = true
    rw [decide_eq_true_eq]; omega
  rw [h1, h3]
  conv => rhs; rw [← getD_map s.votes, List.countP_map, hl]
  rw [Nat.zero_add, Nat.add_zero]
  refine List.countP_congr fun j hj => ?_
  have := List.mem_range.1 hj
  show decide (0 < 1 + j ∧ 1 + j ≤ m ∧ (encB s).getD (1 + j) 0 ≠ 0) = true ↔ decide (s.votes.getD j 0 ≠ 0) = true
  rw [decide_eq_true_eq, decide_eq_true_eq, encB_get, if_neg (by omega), hl, if_pos (by omega), show 1 + j - 1 = j by omega]
  exact ⟨fun h => h.2.2, fun h => ⟨by omega, by omega, h⟩⟩
theorem sum_is {s : St} {m : Nat} (hl : s.votes.length = m) (h8 : ∀ v ∈ s.votes, 0 ≤ v ∧ v ≤ 8) : sumN (encB s) m (m + 9) = ((s.votes.countP fun v => decide (v ≠ 0) : Nat) : Int) := by
  have e : m + 9 = (m + 1) + 8 := by omega
  unfold sumN
  rw [e, List.range_add, List.map_append, List.sum_append, List.map_map]
  have h1 : ((List.range (m + 1)).map fun j => if m < j then (encB s).getD j 0 else 0).sum = 0 := by
    have : ((List.range (m + 1)).map fun j => if m < j then (encB s).getD j 0 else 0) = List.replicate (m + 1) 0 := by
      refine List.eq_replicate_iff.2 ⟨by simp, fun b hb => ?_⟩
      obtain ⟨j, hj, rfl⟩ := List.mem_map.1 hb
      have := List.mem_range.1 hj
      rw [if_neg (by omega)]
    rw [this]; simp
  have h2 : (List.range 8).map ((fun j => if m < j then (encB s).getD j 0 else 0) ∘ fun x => m + 1 + x) = (List.range 8).map fun j : Nat => ((tallyL s.votes ((j + 1 : Nat) : Int) : Nat) : Int) := List.map_congr_left fun j hj => by
    have := List.mem_range.1 hj
    show (if m < m + 1 + j then (encB s).getD (m + 1 + j) 0 else 0) = _
    rw [if_pos (by omega), encB_get, if_neg (by omega), hl, if_neg (by omega), if_pos (by omega), show m + 1 + j - m = j + 1 by omega]
  rw [h1, h2, Int.zero_add, ← tally_sum _ h8]
  simp only [List.range, List.range.loop, List.map_cons, List.map_nil, List.sum_cons, List.sum_nil]
  push_cast
  omega

end Go.Proofs.YtmonkcekkhfafaaGreatDoor.Enc

/- ZeroM:
  The words of a state at first are all 0; append of one word onto a row that is full. No condition but those that each theorem says.
-/
namespace Go.Proofs.YtmonkcekkhfafaaGreatDoor.Enc
open Go.RowKit (Below intOf)
open Go.Proofs.YtmonkcekkhfafaaGreatDoor.Aut
open Go.Proofs.YtmonkcekkhfafaaGreatDoor.Law (pickZ conf_any)
open Go.Proofs.YtmonkcekkhfafaaGreatDoor.Reg (cf bx fits_any)

theorem new_wd (k p m : Int) : Aut.Wd (newS k p m).1 := by
  unfold newS
  split
  · refine ⟨by show U64 0; unfold U64; decide, fun _ h => (by cases h), fun _ h => (by cases h), fun x hx => ?_⟩
    dsimp only at hx
    split at hx
    · rw [List.eq_of_mem_replicate hx]; unfold I64; decide
    · cases hx
  · exact ⟨by show U64 0; unfold U64; decide, fun _ h => (by cases h), fun _ h => (by cases h), fun _ h => (by cases h)⟩
theorem table_nil (n : Nat) : Prb.tableOf n [] = List.replicate n (0, 0) := by unfold Prb.tableOf Prb.sortB; rw [List.mergeSort_nil]; rfl
theorem flatW_zero {w n : Nat} (_ : Prb.Wd w) : ∀ x ∈ Prb.flatW w (List.replicate n (0, 0)), x = 0 := fun x hx => by
  unfold Prb.flatW at hx
  obtain ⟨r, hr, h⟩ := List.mem_flatMap.1 hx
  rw [List.eq_of_mem_replicate hr] at h
  unfold Prb.wordsOf at h
  split at h <;> simp at h <;> exact h
/-- A state at first has words that are all 0. -/
theorem new_zero {k p m : Int} (h : fits k p m = true) : ∀ x ∈ encW k m (newS k p m).1, x = 0 := by
  have hb := fits_of h
  have e : (newS k p m).1 = ⟨0, [], [], if k = 5 then List.replicate m.toNat 0 else [], false⟩ := by unfold newS; rw [if_pos h]
  rw [e]
  obtain rfl | rfl | rfl | rfl | rfl : k = 1 ∨ k = 2 ∨ k = 3 ∨ k = 4 ∨ k = 5 := by omega
  · intro x hx
    have hx : x ∈ [(0 : Int)] := hx
    simpa using hx
  · intro x hx
    have hx : x ∈ (0 : Int) :: Prb.flatW 1 (Prb.tableOf (2 * m.toNat) []) := hx
    rw [table_nil] at hx
    rcases List.mem_cons.1 hx with h | h
    · exact h
    · exact flatW_zero (.inl rfl) x h
  · intro x hx
    have hx : x ∈ (0 : Int) :: Prb.flatW 2 (Prb.tableOf (2 * m.toNat) []) := hx
    rw [table_nil] at hx
    rcases List.mem_cons.1 hx with h | h
    · exact h
    · exact flatW_zero (.inr rfl) x h
  · intro x hx
    have hx : x ∈ encT m.toNat ⟨0, [], [], [], false⟩ := hx
    unfold encT at hx
    have e0 : encO ⟨0, [], [], [], false⟩ = [0, 0] := by
      unfold encO
      rw [show ranksO ⟨0, [], [], [], false⟩ = [] from rfl, Trp.tree_nil]
      rfl
    rw [e0] at hx
    rcases List.mem_append.1 hx with h | h
    · simpa using h
    · exact List.eq_of_mem_replicate h
  · intro x hx
    rw [if_pos rfl] at hx
    have hx : x ∈ encB ⟨0, [], [], List.replicate m.toNat 0, false⟩ := hx
    obtain ⟨j, hj⟩ := List.getElem?_of_mem hx
    have hg := encB_get ⟨0, [], [], List.replicate m.toNat 0, false⟩ j
    rw [List.getD_eq_getElem?_getD, hj, Option.getD_some] at hg
    rw [hg]
    dsimp only
    split
    · rfl
    · split
      · rw [List.getD_eq_getElem?_getD]
        cases hq : (List.replicate m.toNat (0 : Int))[j - 1]? with
        | none => rfl
        | some v => exact List.eq_of_mem_replicate (List.mem_of_getElem? hq)
      · rename_i h1
        rw [List.length_replicate] at h1
        split
        · have : tallyL (List.replicate m.toNat 0) ((j - (List.replicate m.toNat (0 : Int)).length : Nat) : Int) = 0 := by
            unfold tallyL
            refine List.countP_eq_zero.2 fun v hv => ?_
            rw [List.eq_of_mem_replicate hv, decide_eq_true_eq, List.length_replicate]
            omega
          rw [this]; rfl
        · rfl
theorem new_words {k p m : Int} (h : fits k p m = true) {n : Nat} (hn : (encW k m (newS k p m).1).length = n) : encW k m (newS k p m).1 = List.replicate n 0 := List.eq_replicate_iff.2 ⟨hn, new_zero h⟩
/-- append of one word onto a row that is full. -/
theorem grow_one {base n b o c : Nat} {g : Nat} {xs : List Int} {W : World} {z : Int} (h : W.ownsRow base 26 1 (.slice (some ⟨g, 0, none⟩) n n) n (flatWS xs)) (hl : xs.length = n) (hu : ∀ x ∈ xs, U64 x) (hz : WS W (some ⟨b, o, none⟩) 1 c [z]) (hn : n ≤ 200) (hb : base ≤ W.heap.size) :
    ∃ sl' c' w', RowKit.Hid ((Builtin.append_ #[27, 27] 27 #[.slice (some ⟨g, 0, none⟩) n n, .slice (some ⟨b, o, none⟩) 1 c]).run Tryz.prog W = .ok (.slice sl' (n + 1) c') w') ∧ WS w' sl' (n + 1) c' (xs ++ [z]) ∧ Ext W w' := by
  obtain ⟨i0, hi, hz0, hz1, hz2⟩ := info_parts infoWS
  obtain ⟨v', w', hrun, h2, _⟩ := appendWS h hz (by omega) hb 27
  obtain ⟨sl', c', rfl⟩ := own_form h2
  have hc : ∀ (j : Nat) u, (flatWS xs)[j]? = some u → W.drew.cell? ((⟨g, 0, none⟩ : Addr).add j) = some u := fun j u hu => h.cells rfl j u hu
  have hold := run_firstCells_some (P := Tryz.prog) W.drew 1 n ⟨g, 0, none⟩ n n (flatWS xs) (by rw [flatWS_len, hl]) hc
  have hs := Src.ofSlice (P := Tryz.prog) (w := W) (size := i0.size) (tx := 27) Tryz.underlying27 ⟨b, o, none⟩ 1 c (flatWS [z]) (by rw [flatWS_len, hz1]; rfl) hz.news (flatWS_one _)
  have hg2 := run_append_grow_src (P := Tryz.prog) (w := W) 27 27 27 26 i0 _ Tryz.underlying27 hi hz0 (some ⟨g, 0, none⟩) n n (flatWS xs) (by rw [hz1]; exact hold) (.slice (some ⟨b, o, none⟩) 1 c) 1 (flatWS [z]) hs (by omega) (by omega) (by rw [hz2]; have : Builtin.nextslicecap (n + 1) n ≤ 2 * n + 1 := by { unfold Builtin.nextslicecap; (repeat' split) <;> omega }; omega)
  rw [hg2] at hrun
  injection hrun with e1 e2
  have e3 := congrArg (fun v : Value => match v with | .slice s k c => (s, k, c) | _ => (none, 0, 0)) e1
  simp only [Prod.mk.injEq] at e3
  obtain ⟨e4, e5, e6⟩ := e3
  subst e4
  refine ⟨_, _, _, Lib.hid (by rw [hg2, e2, ← e6]), WS.of_own h2 (by simp [hl]) (by omega) (fun y hy => ?_), by rw [← e2]; exact (Ext.draws W 1).alloc _⟩
  rcases List.mem_append.1 hy with h | h
  · exact hu y h
  · exact hz.range y h
theorem conf_fits (a b c : Int) : fits (1 + pickZ a 5) (1 + pickZ b 16) (1 + pickZ c 12) = true ∧ 1 + pickZ c 12 ≤ 12 := by
  have a0 := Law.pick_ge a (n := 5) (by decide)
  have a1 := Law.pick_lt a (n := 5) (by decide)
  have b0 := Law.pick_ge b (n := 16) (by decide)
  have b1 := Law.pick_lt b (n := 16) (by decide)
  have c0 := Law.pick_ge c (n := 12) (by decide)
  have c1 := Law.pick_lt c (n := 12) (by decide)
  refine ⟨?_, by omega⟩
  unfold fits Reg.fits
  simp
  omega
theorem hom_le {k p m : Int} (hf : fits k p m = true) (h : m ≤ 12) : 1 ≤ Reg.hom k m ∧ Reg.hom k m ≤ 60 := by
  have hb := fits_of hf
  unfold Reg.hom
  (repeat' split) <;> omega

end Go.Proofs.YtmonkcekkhfafaaGreatDoor.Enc

