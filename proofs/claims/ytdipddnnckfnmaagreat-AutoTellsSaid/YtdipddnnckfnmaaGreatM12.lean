/-
  Parts of a proof, one behind the other: AutTally. Each says its own conditions.
-/
import Derived.Test.YtdipddnnckfnmaaGreatM11

/- AutTally:
  What the document's ballot tells of a tally, and what it does and tells of any call. Conditions: integers' bounds; the state's slices are there, as many votes as there may be, each from 0 to 8.
-/
namespace Go.Proofs.YtdipddnnckfnmaaGreat.Aut
open Go.RowKit (Below intOf)
open Reg (cf bx)

theorem bit_q (b : Bool) (w : World) (m : Nat) : Calls Tryz.prog 72 #[.bool b] (w.drewN m) fun e w' => e = .returned (.int .u64 (bitZ b)) ∧ ∃ j, w' = w.drewN j :=
  (bit_any b _).mono fun _ _ h => ⟨h.1, m, h.2.symm⟩
theorem bit_q1 (w : World) (m : Nat) : Calls Tryz.prog 72 #[.bool true] (w.drewN m) fun e w' => e = .returned (.int .u64 1) ∧ ∃ j, w' = w.drewN j := bit_q true w m
theorem bit_q0 (w : World) (m : Nat) : Calls Tryz.prog 72 #[.bool false] (w.drewN m) fun e w' => e = .returned (.int .u64 0) ∧ ∃ j, w' = w.drewN j := bit_q false w m
theorem tally_up {vs : List Int} {i : Nat} {y : Int} (h : vs[i]? = some y) (x : Int) : tallyL (vs.take (i + 1)) x = tallyL (vs.take i) x + (if y = x then 1 else 0) := by
  unfold tallyL
  rw [take_snoc h, List.countP_append]
  by_cases c : y = x
  · simp [c]
  · simp [c]
theorem tally_no_more (vs : List Int) (x : Int) : tallyL vs x ≤ vs.length := by unfold tallyL; exact List.countP_le_length
theorem Opb.drewN {w : World} {b : Nat} {cd ky vl : Int} (h : Opb w b cd ky vl) (n : Nat) : Opb (w.drewN n) b cd ky vl := h.ext (Ext.draws w n)
theorem Five.drewN {w : World} {b : Nat} {r : Int} {k v t : Sl} {cl : Bool} (h : Five w b r k v t cl) (n : Nat) : Five (w.drewN n) b r k v t cl := h.ext (Ext.draws w n)

set_option maxHeartbeats 4000000 in
set_option maxRecDepth 100000 in
theorem ba14 (k p : Int) (m : Nat) (a v t : Sl) (s : St) (ky vl : Int) (w : World) (h1 : 1 ≤ ky) (h8 : ky ≤ 8) (hr8 : ∀ y ∈ s.votes, 0 ≤ y ∧ y ≤ 8) (hS : SS w a v t s) (ho : Wc ⟨14, ky, vl⟩) (hm : s.votes.length = m) (hl : m ≤ 256) :
    Calls Tryz.prog 50 #[cf k p m, sv s.reg a v t s.closed, ov ⟨14, ky, vl⟩] w (DE a v t (ballotS m s ⟨14, ky, vl⟩) w) := by
  obtain ⟨ka, kn, kc⟩ := a
  obtain ⟨va, vn, vc⟩ := v
  obtain ⟨ta, tn, tc⟩ := t
  obtain ⟨r, ks, vs, vt, cl⟩ := s
  have hr := hS.1
  have HS := Lib.hid hS
  have htl : tn = m := by rw [← hm]; exact hS.2.2.2.len.symm
  subst htl
  obtain ⟨_, hky, hvl⟩ := ho
  dsimp only at hr8 hm
  have HR8 := Lib.hid hr8
  have HM := Lib.hid hm
  clear hS hm hr8
  dsimp only [sv, ov] at *
  have b1 : decide (ky < 1) = false := decide_eq_false (by omega)
  have b2 : decide (8 < ky) = false := decide_eq_false (by omega)
  have hz : RowKit.Hid (ballotS tn ⟨r, ks, vs, vt, cl⟩ ⟨14, ky, vl⟩ = (⟨r, ks, vs, vt, cl⟩, (0, (tallyL vt ky : Int)))) := Lib.hid (by
    unfold ballotS; rw [if_neg (by simp), if_neg (by simp), if_pos rfl, if_neg (by simp only; omega)])
  go_enter Tryz.func50, Tryz.ntmps50
  go_wp2_with (fail)
  go_loopg [9, 10] tn (fun kx s9 s10 wr => ∃ q, wr = ((((((w.alloc (.cells #[.int .i64 k, .int .i64 p, .int .i64 (tn : Int)] 24)).alloc (.cells #[.int .u64 r, .slice ka kn kc, .slice va vn vc, .slice ta tn tc, .bool cl] 30)).alloc (.cells #[.int .i64 14, .int .u64 ky, .int .u64 vl] 32)).alloc (.cells #[.int .u64 0, .slice none 0 0, .slice none 0 0, .slice none 0 0, .bool false] 30)).alloc (.cells #[.int .i64 0, .int .u64 0] 51)).alloc (.cells #[.int .u64 r, .slice ka kn kc, .slice va vn vc, .slice ta tn tc, .bool cl] 30)).drewN q ∧ ∃ i : Nat, s10 = .int .i64 i ∧ i ≤ tn ∧ tn - i ≤ kx ∧ s9 = .int .u64 (tallyL (vt.take i) ky : Nat))
  case atStart => exact ⟨0, rfl, 0, rfl, Nat.zero_le _, by omega, by simp [tallyL]⟩
  case round =>
    obtain ⟨q, hwr, i, rfl, hi, hg, rfl⟩ := hrel
    by_cases hlt : i < tn
    · have hlt2 : (i : Int) < tn := by omega
      have hX : Ext w wr := by rw [hwr]; repeat (first | with_reducible exact Ext.refl _ | with_reducible refine Ext.alloc ?_ _ | with_reducible refine Ext.drewN ?_ _)
      have d3 : wr.cell? ⟨w.heap.size + 1, 3, none⟩ = some (.slice ta tn tc) := by
        rw [hwr]
        exact (show Five _ (w.heap.size + 1) r ⟨ka, kn, kc⟩ ⟨va, vn, vc⟩ ⟨ta, tn, tc⟩ cl by repeat (first | ((with_reducible refine five_at ?_); (simp; done)) | with_reducible refine Five.alloc ?_ _ | with_reducible refine Five.drewN ?_ _)).2.2.2.1
      have o1 : wr.cell? ⟨w.heap.size + 1 + 1, 1, none⟩ = some (.int .u64 ky) := by
        rw [hwr]
        exact (show Opb _ (w.heap.size + 1 + 1) 14 ky vl by repeat (first | ((with_reducible refine opb_at ?_); (simp; done)) | with_reducible refine Opb.alloc ?_ _ | with_reducible refine Opb.drewN ?_ _)).2.1
      replace hwr := Lib.hid hwr
      obtain ⟨y, hy, hyu, b, o, e0, cy⟩ := HS.out.2.2.2.get (k := i) hlt
      dsimp only at e0 hy cy
      subst e0
      replace cy := hX.cell cy
      clear hX
      have hy8 := HR8.out y (List.mem_of_getElem? hy)
      have hwy : IntKind.u64.wrap y = y := by first | exact IntWalk.u64_in _ (by omega) | (simp [IntKind.wrap, IntKind.bits, IntKind.signed]; omega)
      have ht := Lib.hid (tally_up hy ky)
      have hle : tallyL (vt.take i) ky ≤ i := Nat.le_trans (tally_no_more _ _) (by rw [List.length_take]; omega)
      clear hy hyu
      generalize hq : tallyL (vt.take i) ky = qq at *
      clear hq
      by_cases he : y = ky
      · have hb : (y == ky) = true := by simpa using he
        have hw : IntKind.u64.wrap ((qq : Int) + 1) = (qq : Int) + 1 := by simp only [IntKind.wrap_u64]; omega
        rw [if_pos he] at ht
        clear he
        go_wp2_with (fail)
        go_quiet (first | (go_at_call 72; first | exact bit_q1 _ _ | exact bit_q0 _ _))
        go_wp2_with (fail)
        go_roundg (tn - (i + 1))
        case measure => omega
        case rel => exact ⟨q + nq, by rw [hwr.out]; first | rfl | exact World.drewN_drewN .., i + 1, by first | rfl | (congr 1; omega), by omega, by omega, by rw [ht.out]; first | rfl | (congr 1; simp only [bitZ, if_true, IntKind.wrap_u64]; omega)⟩
      · have hb : (y == ky) = false := by simpa using he
        have hw : IntKind.u64.wrap ((qq : Int) + 0) = (qq : Int) := by simp only [IntKind.wrap_u64]; omega
        rw [if_neg he] at ht
        clear he
        go_wp2_with (fail)
        go_quiet (first | (go_at_call 72; first | exact bit_q1 _ _ | exact bit_q0 _ _))
        go_wp2_with (fail)
        go_roundg (tn - (i + 1))
        case measure => omega
        case rel => exact ⟨q + nq, by rw [hwr.out]; first | rfl | exact World.drewN_drewN .., i + 1, by first | rfl | (congr 1; omega), by omega, by omega, by rw [ht.out]; first | rfl | (congr 1; simp only [bitZ, Bool.false_eq_true, if_false, IntKind.wrap_u64]; omega)⟩
    · subst hwr
      obtain rfl : i = tn := by omega
      have hlt2 : ¬ (i : Int) < i := by omega
      have ht : vt.take i = vt := by rw [← HM.out]; exact List.take_length
      have hq : RowKit.Hid (tallyL (vt.take i) ky = tallyL vt ky) := Lib.hid (by rw [ht])
      clear ht HR8 HM
      generalize tallyL (vt.take i) ky = qq at *
      go_wp2_with (fail)
      go_region_held3 (fun w' => (w'.cell? ⟨w.heap.size + 1, 0, none⟩ = some (.int .u64 r) ∧ w'.cell? ⟨w.heap.size + 1, 1, none⟩ = some (.slice ka kn kc) ∧ w'.cell? ⟨w.heap.size + 1, 2, none⟩ = some (.slice va vn vc) ∧ w'.cell? ⟨w.heap.size + 1, 3, none⟩ = some (.slice ta i tc) ∧ w'.cell? ⟨w.heap.size + 1, 4, none⟩ = some (.bool cl) ∧ True))
        (first | exact and5 (by ((show Five _ (w.heap.size + 1) r ⟨ka, kn, kc⟩ ⟨va, vn, vc⟩ ⟨ta, i, tc⟩ cl); repeat (first | ((with_reducible refine five_at ?_); (simp; done)) | with_reducible refine Five.alloc ?_ _ | with_reducible refine Five.drew ?_ | with_reducible refine Five.drewN ?_ _ | with_reducible refine Five.set ?_ (by omega) _ _))) trivial | go_keep)
        (first
          | (go_at_call 68; (with_reducible refine (tells_is _ _).mono ?_); rintro e w1 ⟨rfl, rfl⟩))
      rename_i hqq
      clear hqq
      go_wp2_with (fail)
      refine bodyPost_ret (v := .tuple #[sv r ⟨ka, kn, kc⟩ ⟨va, vn, vc⟩ ⟨ta, i, tc⟩ cl, rv 0 (qq : Int)]) (by simp [results, Tryz.results50, go_sem]) rfl ?_
      rw [hz.out, ← hq.out]
      refine ⟨?_, _, _, _, rfl, ⟨hr, HS.out.2.1.ext ?_, HS.out.2.2.1.ext ?_, HS.out.2.2.2.ext ?_⟩, fun _ _ h => h⟩ <;> repeat (first | with_reducible exact Ext.refl _ | with_reducible refine Ext.alloc ?_ _ | with_reducible refine Ext.drew ?_ | with_reducible refine Ext.drewN ?_ _ | with_reducible refine Ext.setCell ?_ (by omega) _)

theorem ballot_any (k p : Int) (m : Nat) (a v t : Sl) (s : St) (o : Cl) (w : World) (hS : SS w a v t s) (ho : Wc o) (hV : VotesOk m s) (hl : m ≤ 256) :
    Calls Tryz.prog 50 #[cf k p m, sv s.reg a v t s.closed, ov o] w (DE a v t (ballotS m s o) w) := by
  obtain ⟨cd, ky, vl⟩ := o
  have hm : s.votes.length = m := by have := hV.1; omega
  by_cases h12 : cd = 12
  · subst h12; exact ba12 k p m a v t s ky vl w hS ho hm hl
  by_cases h13 : cd = 13
  · subst h13; exact ba13 k p m a v t s ky vl w hS ho hm hl
  by_cases h14 : cd = 14
  · subst h14
    by_cases h1 : ky < 1
    · exact ba14l k p m a v t s ky vl w h1 hS ho hm hl
    · by_cases h8 : 8 < ky
      · exact ba14h k p m a v t s ky vl w h8 hS ho hm hl
      · exact ba14 k p m a v t s ky vl w (by omega) (by omega) hV.2 hS ho hm hl
  by_cases h15 : cd = 15
  · subst h15
    by_cases h1 : (m : Int) ≤ ky
    · exact ba15n k p m a v t s ky vl w h1 hS ho hm hl
    · exact ba15y k p m a v t s ky vl w h1 hV.2 hS ho hm hl
  by_cases h16 : cd = 16
  · subst h16; exact ba16 k p m a v t s ky vl w hS ho hm hl
  exact babad k p m a v t s cd ky vl w h12 h13 h14 h15 h16 hS ho hm hl

end Go.Proofs.YtdipddnnckfnmaaGreat.Aut

