/-
  What the document's own laid returns: the table of records. Conditions: the records are there, they may stand in one table, and it has room.
-/
import Derived.Test.YtbpgnnogpcppdaaDoorRefAhead
import Derived.Test.YtbpgnnogpcppdaaDoorRefRecs
namespace Go.Proofs.YtbpgnnogpcppdaaDoor
open Go.RowKit (Below intOf)

theorem slot_is (k : Int) (n : Nat) (hn : 1 ≤ n) : slot k (n : Int) = ((slotN k n : Nat) : Int) := by
  have h := slot_bd k n (by omega)
  unfold slotN slot at *
  rw [if_neg (by omega)] at h ⊢
  omega
theorem flat_zeros1 (n : Nat) : flatW 1 (List.replicate n (0, 0)) = List.replicate (n * 1) 0 := by
  rw [flat_1, List.map_replicate, Nat.mul_one]
theorem flat_zeros2 (n : Nat) : flatW 2 (List.replicate n (0, 0)) = List.replicate (n * 2) 0 := by
  induction n with
  | zero => rfl
  | succ n ih =>
    rw [List.replicate_succ, flatW_cons, ih, show (n + 1) * 2 = n * 2 + 1 + 1 by omega, List.replicate_succ, List.replicate_succ]; rfl
/-- How far a slot is from the first one. -/
def offs (S n : Nat) (a : Int) : Nat := if S ≤ a.toNat then a.toNat - S else a.toNat + n - S
theorem offs_is {S n j P : Nat} (hj : j < n) (hS : S < n) (h : P = (S + j) % n) : offs S n (P : Int) = j := by
  unfold offs
  rw [Int.toNat_natCast]
  by_cases e : S + j < n
  · rw [Nat.mod_eq_of_lt e] at h; rw [if_pos (by omega)]; omega
  · rw [Nat.mod_eq_sub_mod (by omega), Nat.mod_eq_of_lt (by omega)] at h; rw [if_neg (by omega)]; omega

set_option maxRecDepth 100000 in
set_option maxHeartbeats 1000000 in
theorem laid_1 (s : Option Addr) (m c n : Nat) (l : List Rc) (w : World) (hL : QS w s m c l) (n1 : 1 ≤ n) (n2 : n ≤ 1024) (hG : Good l) (hl : l.length ≤ n) (ht : Thin 1 l) :
    Calls Tryd.prog 40 #[.int .i64 n, .int .i64 1, .slice s m c] w fun e w' => ∃ sl c', e = .returned (.slice sl (n * 1) c') ∧ WS w' sl (n * 1) c' (flatW 1 (tableOf n l)) ∧ Ext w w' := by
  rw [Nat.mul_one]
  have hmk := make_words n (by omega) w
  have hrow0 := zeros_row n w
  have hm := hL.le
  have HG := Lib.hid hG
  have Hl := Lib.hid hl
  have Ht := Lib.hid ht
  have HL := Lib.hid (hL.ext (Ext.new w (.cells (zeros n) 24)))
  have HR := Lib.hid hrow0
  clear hL hG hl ht hrow0
  go_enter Tryd.func40, Tryd.ntmps40
  go_wp2_with (go_at_call 53; refine (ahead_any s m c l _ HL.out).mono ?_; rintro e w1 ⟨sy, cy, ys, rfl, hY, hp, hFr, hE1⟩)
  clear hmk
  have hsort : RowKit.Hid (ys = sortB l) := Lib.hid (sortB_one HG.out hp.1 hp.2)
  have HF : RowKit.Hid (Fresh (w.heap.size + 1) sy) := Lib.hid (by simpa using hFr)
  have HY := Lib.hid hY
  clear hFr
  have hE0 : Ext w w1 := (Ext.new w _).trans hE1
  have HR1 := Lib.hid (HR.out.ext hE1)
  clear hp hE1 hY HR
  go_loopw [9] (fun i wr => ∃ (k : Nat) (cur d : List Rc), k ≤ m ∧ i = .int .i64 k ∧ Below w.heap.size w wr ∧ RowKit.Hid (QS wr sy m cy ys) ∧ RowKit.Hid (RowW wr w.heap.size (flatW 1 cur) ∧ cur = (ys.take k).foldl layS (List.replicate n (0, 0)) ∧ Inv n cur d ∧ d.Perm (ys.take k))) (fun i _ => m - (intOf i).toNat)
  case atStart => exact ⟨0, List.replicate n (0, 0), [], by omega, rfl, hE0, HY, Lib.hid ⟨by have := HR1.out; rwa [← Nat.mul_one n, ← flat_zeros1] at this, rfl, inv_start n, by simp⟩⟩
  case round =>
    obtain ⟨k, cur, d, hk, rfl, hE, hYr, hin⟩ := hrel
    by_cases hlt : k < m
    · obtain ⟨p, x, hx, up, ux, ba, oa, rfl, e0, e1⟩ := hYr.out.get hlt
      have hkm : (k : Int) < m := by omega
      have HX := Lib.hid hx
      have hmem : RowKit.Hid ((p, x) ∈ l) := Lib.hid (by have := List.mem_of_getElem? hx; rw [hsort.out] at this; exact (sortB_perm l).mem_iff.1 this)
      have hdl : d.length < n := by
        rw [hin.out.2.2.2.length_eq, List.length_take]
        have h1 := hYr.out.len
        have h2 := Hl.out
        have h3 : ys.length = l.length := by rw [hsort.out]; exact (sortB_perm l).length_eq
        omega
      have hp0 : RowKit.Hid (p ≠ 0) := Lib.hid (HG.out.key _ hmem.out)
      have hsl := slotN_lt (k := p) (n := n) (by omega)
      obtain ⟨i0, hi0, hemp, hbef⟩ := room hin.out.2.2.1 hdl (slotN p n) hsl
      have hsi : slot p (n : Int) = ((slotN p n : Nat) : Int) := slot_is p n n1
      obtain ⟨S, hS⟩ : ∃ S, slotN p n = S := ⟨_, rfl⟩
      have HS := Lib.hid hS
      rw [hS] at hemp hbef hsl hsi
      have Hemp := Lib.hid hemp
      have Hbef := Lib.hid hbef
      have Hd := Lib.hid hdl
      clear hx hemp hbef hdl hS
      go_wp2_with (fail)
      refine (refSlot_any p n _ up.1 up.2 (by omega) (by omega)).mono ?_
      rintro e w2 ⟨rfl, rfl⟩
      go_wp2_with (fail)
      clear hsi
      go_loop [10] (fun a => ∃ (j P : Nat), j ≤ i0 ∧ P < n ∧ a = .int .i64 P ∧ RowKit.Hid (P = (S + j) % n)) (fun a => i0 - (offs S n (intOf a)))
      case atStart => exact ⟨0, S, by omega, hsl, rfl, Lib.hid (by rw [Nat.add_zero, Nat.mod_eq_of_lt hsl])⟩
      case round =>
        obtain ⟨j, P, hj, hP, rfl, hPe⟩ := hrel
        have hoff : offs S n (P : Int) = j := offs_is (by omega) hsl hPe.out
        have hPl : P < cur.length := by rw [hin.out.2.2.1.len]; exact hP
        have hat := at_some hPl
        obtain ⟨u, hu⟩ : ∃ u, at' cur P = u := ⟨_, rfl⟩
        rw [hu] at hat
        have hc0 := hin.out.1 (P * 1) u.1 (by rw [flat_0 (w := 1) (by unfold Wd; omega), hat]; rfl)
        obtain ⟨_, hc0, hf0⟩ := hc0
        rw [Nat.mul_one] at hc0 hf0
        have hPM : (P : Int) < n := by omega
        by_cases hjl : j < i0
        · have hu0 : u.1 ≠ 0 := fun h0 => Hbef.out j hjl (by rw [← hPe.out, hu]; exact hin.out.2.2.1.clean u (List.mem_of_getElem? hat) h0)
          have hb : (u.1 != 0) = true := by simpa using hu0
          obtain ⟨P2, hP2⟩ : ∃ P2, P2 = (P + 1) % n := ⟨_, rfl⟩
          have hP2n : P2 < n := by rw [hP2]; exact Nat.mod_lt _ (by omega)
          have hq1 : ((P : Int) + 1) % n = P2 := by rw [hP2, Int.natCast_emod, Int.natCast_add]; rfl
          have hq2 : ((P : Int) + 1).tmod n = P2 := by rw [Int.tmod_eq_emod_of_nonneg (by omega)]; exact hq1
          have hP2e : RowKit.Hid (P2 = (S + (j + 1)) % n) := Lib.hid (by rw [hP2, hPe.out, Nat.mod_add_mod]; rfl)
          have hoff2 : RowKit.Hid (offs S n (P2 : Int) = j + 1) := Lib.hid (offs_is (by omega) hsl hP2e.out)
          have HU := Lib.hid hu
          have Hat := Lib.hid hat
          have Hoff := Lib.hid hoff
          clear hu hat hu0 hP2 hoff
          go_wp2_with (fail)
          go_round
          case rel => exact ⟨j + 1, P2, by omega, hP2n, by go_num, hP2e⟩
          case measure => simp only [intOf]; rw [Hoff.out, hoff2.out]; omega
        · obtain rfl : j = i0 := by omega
          have hu0 : u = (0, 0) := by rw [← hu, hPe.out]; exact Hemp.out
          subst hu0
          have hlay : RowKit.Hid (layS cur (p, x) = cur.set P (p, x)) := Lib.hid (by
            have h1 := HS.out
            rw [layS_at (r := (p, x)) (i := j) hin.out.2.2.1.len hi0 (by rw [h1]; exact Hemp.out) (by rw [h1]; exact Hbef.out), hPe.out, h1])
          have hlen : RowKit.Hid ((flatW 1 cur).length = n) := Lib.hid (by rw [flatW_len (by unfold Wd; omega), hin.out.2.2.1.len, Nat.mul_one])
          have hba : ba ≠ w.heap.size := by have := HF.out ba oa rfl; omega
          have hinv : RowKit.Hid (Inv n (cur.set P (p, x)) ((p, x) :: d)) := Lib.hid (by rw [← hlay.out]; exact inv_step hin.out.2.2.1 Hd.out hp0.out)
          have hcur : RowKit.Hid (cur.set P (p, x) = (ys.take (k + 1)).foldl layS (List.replicate n (0, 0))) := Lib.hid (by
            rw [take_snoc HX.out, List.foldl_append, ← hin.out.2.1]; exact hlay.out.symm)
          have hdp : RowKit.Hid (((p, x) :: d).Perm (ys.take (k + 1))) := Lib.hid (by
            rw [take_snoc HX.out]; exact (List.Perm.cons _ hin.out.2.2.2).trans (by simpa using List.perm_append_comm (l₁ := [(p, x)]) (l₂ := ys.take k)))
          have hr2 : RowKit.Hid (RowW (wr.setCell ⟨w.heap.size, P, none⟩ (.int .u64 p)) w.heap.size (flatW 1 (cur.set P (p, x)))) := Lib.hid (by
            rw [flat_set_1]; exact hin.out.1.set (by rw [hlen.out]; exact hP) up)
          have hq2 : RowKit.Hid (QS (wr.setCell ⟨w.heap.size, P, none⟩ (.int .u64 p)) (some ⟨ba, oa, none⟩) m cy ys) := Lib.hid (hYr.out.far HF.out)
          clear hu hat hoff hPl
          go_wp2_with (fail)
          go_roundw
          case rel => exact ⟨k + 1, cur.set P (p, x), (p, x) :: d, by omega, by go_num, Below.setCell (p := ⟨w.heap.size, P, none⟩) hE (Nat.le_refl _) _, Lib.hid hq2.out, Lib.hid ⟨hr2.out, hcur.out, hinv.out, hdp.out⟩⟩
          case measure => simp [intOf]; omega
    · obtain rfl : k = m := by omega
      go_wp2_with (fail)
      go_ret
      refine ⟨_, _, rfl, ?_, hE⟩
      have h2 := hin.out.2.1
      rw [List.take_of_length_le (by rw [hYr.out.len]; omega), hsort.out] at h2
      have h3 := hin.out.1
      have h4 : cur = tableOf n l := h2
      rw [h4] at h3
      exact h3.ws (by rw [flatW_len (by unfold Wd; omega), (table_inv HG.out Hl.out).len, Nat.mul_one]) (by omega) (Nat.le_refl _) (by omega)

set_option maxRecDepth 100000 in
set_option maxHeartbeats 1000000 in
theorem laid_2 (s : Option Addr) (m c n : Nat) (l : List Rc) (w : World) (hL : QS w s m c l) (n1 : 1 ≤ n) (n2 : n ≤ 1024) (hG : Good l) (hl : l.length ≤ n) (ht : Thin 2 l) :
    Calls Tryd.prog 40 #[.int .i64 n, .int .i64 2, .slice s m c] w fun e w' => ∃ sl c', e = .returned (.slice sl (n * 2) c') ∧ WS w' sl (n * 2) c' (flatW 2 (tableOf n l)) ∧ Ext w w' := by
  obtain ⟨M, hM⟩ : ∃ M, M = n * 2 := ⟨_, rfl⟩
  rw [← hM]
  have hM2 : M ≤ 2048 := by omega
  have hmul : (n : Int) * 2 = M := by omega
  have hmk := make_words M (by omega) w
  have hrow0 := zeros_row M w
  have hm := hL.le
  have HM := Lib.hid hM
  have HG := Lib.hid hG
  have Hl := Lib.hid hl
  have Ht := Lib.hid ht
  have HL := Lib.hid (hL.ext (Ext.new w (.cells (zeros M) 24)))
  have HR := Lib.hid hrow0
  clear hL hM hG hl ht hrow0
  go_enter Tryd.func40, Tryd.ntmps40
  go_wp2_with (go_at_call 53; refine (ahead_any s m c l _ HL.out).mono ?_; rintro e w1 ⟨sy, cy, ys, rfl, hY, hp, hFr, hE1⟩)
  clear hmk
  have hsort : RowKit.Hid (ys = sortB l) := Lib.hid (sortB_one HG.out hp.1 hp.2)
  have HF : RowKit.Hid (Fresh (w.heap.size + 1) sy) := Lib.hid (by simpa using hFr)
  have HY := Lib.hid hY
  clear hFr
  have hE0 : Ext w w1 := (Ext.new w _).trans hE1
  have HR1 := Lib.hid (HR.out.ext hE1)
  clear hp hE1 hY HR
  go_loopw [9] (fun i wr => ∃ (k : Nat) (cur d : List Rc), k ≤ m ∧ i = .int .i64 k ∧ Below w.heap.size w wr ∧ RowKit.Hid (QS wr sy m cy ys) ∧ RowKit.Hid (RowW wr w.heap.size (flatW 2 cur) ∧ cur = (ys.take k).foldl layS (List.replicate n (0, 0)) ∧ Inv n cur d ∧ d.Perm (ys.take k))) (fun i _ => m - (intOf i).toNat)
  case atStart => exact ⟨0, List.replicate n (0, 0), [], by omega, rfl, hE0, HY, Lib.hid ⟨by have := HR1.out; rwa [HM.out, ← flat_zeros2] at this, rfl, inv_start n, by simp⟩⟩
  case round =>
    obtain ⟨k, cur, d, hk, rfl, hE, hYr, hin⟩ := hrel
    by_cases hlt : k < m
    · obtain ⟨p, x, hx, up, ux, ba, oa, rfl, e0, e1⟩ := hYr.out.get hlt
      have hkm : (k : Int) < m := by omega
      have HX := Lib.hid hx
      have hmem : RowKit.Hid ((p, x) ∈ l) := Lib.hid (by have := List.mem_of_getElem? hx; rw [hsort.out] at this; exact (sortB_perm l).mem_iff.1 this)
      have hdl : d.length < n := by
        rw [hin.out.2.2.2.length_eq, List.length_take]
        have h1 := hYr.out.len
        have h2 := Hl.out
        have h3 : ys.length = l.length := by rw [hsort.out]; exact (sortB_perm l).length_eq
        omega
      have hp0 : RowKit.Hid (p ≠ 0) := Lib.hid (HG.out.key _ hmem.out)
      have hsl := slotN_lt (k := p) (n := n) (by omega)
      obtain ⟨i0, hi0, hemp, hbef⟩ := room hin.out.2.2.1 hdl (slotN p n) hsl
      have hsi : slot p (n : Int) = ((slotN p n : Nat) : Int) := slot_is p n n1
      obtain ⟨S, hS⟩ : ∃ S, slotN p n = S := ⟨_, rfl⟩
      have HS := Lib.hid hS
      rw [hS] at hemp hbef hsl hsi
      have Hemp := Lib.hid hemp
      have Hbef := Lib.hid hbef
      have Hd := Lib.hid hdl
      clear hx hemp hbef hdl hS
      go_wp2_with (fail)
      refine (refSlot_any p n _ up.1 up.2 (by omega) (by omega)).mono ?_
      rintro e w2 ⟨rfl, rfl⟩
      go_wp2_with (fail)
      clear hsi
      go_loop [10] (fun a => ∃ (j P : Nat), j ≤ i0 ∧ P < n ∧ a = .int .i64 P ∧ RowKit.Hid (P = (S + j) % n)) (fun a => i0 - (offs S n (intOf a)))
      case atStart => exact ⟨0, S, by omega, hsl, rfl, Lib.hid (by rw [Nat.add_zero, Nat.mod_eq_of_lt hsl])⟩
      case round =>
        obtain ⟨j, P, hj, hP, rfl, hPe⟩ := hrel
        have hoff : offs S n (P : Int) = j := offs_is (by omega) hsl hPe.out
        have hPl : P < cur.length := by rw [hin.out.2.2.1.len]; exact hP
        have hat := at_some hPl
        obtain ⟨u, hu⟩ : ∃ u, at' cur P = u := ⟨_, rfl⟩
        rw [hu] at hat
        have hc0 := hin.out.1 (P * 2) u.1 (by rw [flat_0 (w := 2) (by unfold Wd; omega), hat]; rfl)
        obtain ⟨_, hc0, hf0⟩ := hc0
        obtain ⟨_, hc1, hf1⟩ := hin.out.1 (P * 2 + 1) u.2 (by rw [flat_21, hat]; rfl)
        have hPM : (P : Int) * 2 < M := by have := HM.out; omega
        by_cases hjl : j < i0
        · have hu0 : u.1 ≠ 0 := fun h0 => Hbef.out j hjl (by rw [← hPe.out, hu]; exact hin.out.2.2.1.clean u (List.mem_of_getElem? hat) h0)
          have hb : (u.1 != 0) = true := by simpa using hu0
          obtain ⟨P2, hP2⟩ : ∃ P2, P2 = (P + 1) % n := ⟨_, rfl⟩
          have hP2n : P2 < n := by rw [hP2]; exact Nat.mod_lt _ (by omega)
          have hq1 : ((P : Int) + 1) % n = P2 := by rw [hP2, Int.natCast_emod, Int.natCast_add]; rfl
          have hq2 : ((P : Int) + 1).tmod n = P2 := by rw [Int.tmod_eq_emod_of_nonneg (by omega)]; exact hq1
          have hP2e : RowKit.Hid (P2 = (S + (j + 1)) % n) := Lib.hid (by rw [hP2, hPe.out, Nat.mod_add_mod]; rfl)
          have hoff2 : RowKit.Hid (offs S n (P2 : Int) = j + 1) := Lib.hid (offs_is (by omega) hsl hP2e.out)
          have HU := Lib.hid hu
          have Hat := Lib.hid hat
          have Hoff := Lib.hid hoff
          clear hu hat hu0 hP2 hoff
          go_wp2_with (fail)
          go_round
          case rel => exact ⟨j + 1, P2, by omega, hP2n, by go_num, hP2e⟩
          case measure => simp only [intOf]; rw [Hoff.out, hoff2.out]; omega
        · obtain rfl : j = i0 := by omega
          have hu0 : u = (0, 0) := by rw [← hu, hPe.out]; exact Hemp.out
          subst hu0
          have hlay : RowKit.Hid (layS cur (p, x) = cur.set P (p, x)) := Lib.hid (by
            have h1 := HS.out
            rw [layS_at (r := (p, x)) (i := j) hin.out.2.2.1.len hi0 (by rw [h1]; exact Hemp.out) (by rw [h1]; exact Hbef.out), hPe.out, h1])
          have hlen : RowKit.Hid ((flatW 2 cur).length = M) := Lib.hid (by rw [flatW_len (by unfold Wd; omega), hin.out.2.2.1.len, HM.out])
          have hba : ba ≠ w.heap.size := by have := HF.out ba oa rfl; omega
          have hinv : RowKit.Hid (Inv n (cur.set P (p, x)) ((p, x) :: d)) := Lib.hid (by rw [← hlay.out]; exact inv_step hin.out.2.2.1 Hd.out hp0.out)
          have hcur : RowKit.Hid (cur.set P (p, x) = (ys.take (k + 1)).foldl layS (List.replicate n (0, 0))) := Lib.hid (by
            rw [take_snoc HX.out, List.foldl_append, ← hin.out.2.1]; exact hlay.out.symm)
          have hdp : RowKit.Hid (((p, x) :: d).Perm (ys.take (k + 1))) := Lib.hid (by
            rw [take_snoc HX.out]; exact (List.Perm.cons _ hin.out.2.2.2).trans (by simpa using List.perm_append_comm (l₁ := [(p, x)]) (l₂ := ys.take k)))
          have hPM3 : P * 2 < M := by have := HM.out; omega
          have hPM4 : P * 2 + 1 < M := by have := HM.out; omega
          have hPM2 : (P : Int) * 2 + 1 < M := by omega
          have hPt : ((P : Int) * 2).toNat = P * 2 := by omega
          have hPt2 : ((P : Int) * 2 + 1).toNat = P * 2 + 1 := by omega
          have hr1 := hin.out.1.set (i := P * 2) (by rw [hlen.out]; exact hPM3) up
          have hr2 : RowKit.Hid (RowW ((wr.setCell ⟨w.heap.size, P * 2, none⟩ (.int .u64 p)).setCell ⟨w.heap.size, P * 2 + 1, none⟩ (.int .u64 x)) w.heap.size (flatW 2 (cur.set P (p, x)))) := Lib.hid (by
            rw [flat_set_2]; exact hr1.set (by rw [List.length_set, hlen.out]; exact hPM4) ux)
          have hq1 := hYr.out.far (i := P * 2) (v := .int .u64 p) HF.out
          have hq2 : RowKit.Hid (QS ((wr.setCell ⟨w.heap.size, P * 2, none⟩ (.int .u64 p)).setCell ⟨w.heap.size, P * 2 + 1, none⟩ (.int .u64 x)) (some ⟨ba, oa, none⟩) m cy ys) := Lib.hid (hq1.far HF.out)
          clear hr1 hq1
          clear hu hat hoff hPl
          go_wp2_with (fail)
          go_roundw
          case rel => exact ⟨k + 1, cur.set P (p, x), (p, x) :: d, by omega, by go_num, Below.setCell (p := ⟨w.heap.size, P * 2 + 1, none⟩) (Below.setCell (p := ⟨w.heap.size, P * 2, none⟩) hE (Nat.le_refl _) _) (Nat.le_refl _) _, Lib.hid hq2.out, Lib.hid ⟨hr2.out, hcur.out, hinv.out, hdp.out⟩⟩
          case measure => simp [intOf]; omega
    · obtain rfl : k = m := by omega
      go_wp2_with (fail)
      go_ret
      refine ⟨_, _, rfl, ?_, hE⟩
      have h2 := hin.out.2.1
      rw [List.take_of_length_le (by rw [hYr.out.len]; omega), hsort.out] at h2
      have h3 := hin.out.1
      have h4 : cur = tableOf n l := h2
      rw [h4] at h3
      exact h3.ws (by rw [flatW_len (by unfold Wd; omega), (table_inv HG.out Hl.out).len, HM.out]) (by omega) (Nat.le_refl _) (by omega)

end Go.Proofs.YtbpgnnogpcppdaaDoor
