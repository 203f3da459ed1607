/-
  Parts of a proof, one behind the other: AutPlaced, AutCast, AutBallot, AutTally. Each says its own conditions.
-/
import Derived.Test.YtmonkcekkhfafaaGreatDoorM11
import Derived.Test.YtmonkcekkhfafaaGreatDoorM12

/- AutPlaced:
  What the document's placed does and tells: a call of what has keys, of a key that is at a place, or would be. Conditions: integers' bounds; the state's slices are there, as many values as keys where there are values, the place within them.
-/
namespace Go.Proofs.YtmonkcekkhfafaaGreatDoor.Aut
open Go.RowKit (Below intOf)
open Reg (cf bx)


/-- What placed does and tells. -/
theorem placed_any (k p m : Int) (a v t : Sl) (s : St) (o : Cl) (x : Int) (i : Nat) (here : Bool) (w : World) (hp : Pl k p m a v t s o x i here w) :
    Calls Tryz.prog 103 #[cf k p m, sv s.reg a v t s.closed, ov o, .int .u64 x, .int .i64 i, .bool here] w (DE a v t (placedS k m s o x i here) w) := by
  obtain ⟨cd, ky, vl⟩ := o
  have hi := hp.hi
  have hh := hp.hh
  by_cases h7 : cd = 7
  · subst h7
    cases here with
    | false => exact pl7n k p m a v t s ky vl x i w hp
    | true =>
      cases hv : valued k with
      | true => exact pl7b k p m a v t s ky vl x i w hv hp
      | false => exact pl7a k p m a v t s ky vl x i w hv hp
  · by_cases h8 : cd = 8
    · subst h8
      cases here with
      | true =>
        by_cases hz : vl = 0
        · exact pl8hz k p m a v t s ky vl x i w hz (hh rfl) hp
        · by_cases hn : i + 1 = s.keys.length
          · exact pl8he k p m a v t s ky vl x i w hz hn hp
          · exact pl8ha k p m a v t s ky vl x i w hz (by have := hh rfl; omega) hp
      | false =>
        by_cases hn : i = s.keys.length
        · exact pl8ne k p m a v t s ky vl x i w hn hp
        · exact pl8na k p m a v t s ky vl x i w (by omega) hp
    · by_cases n5 : cd = 5 ∧ valued k = false
      · obtain ⟨rfl, hv⟩ := n5
        cases here with
        | true => exact pl5h k p m a v t s ky vl x i w hv hp
        | false => exact pl5n k p m a v t s ky vl x i w hv hp
      · by_cases n10 : cd = 10 ∧ valued k = true
        · obtain ⟨rfl, hv⟩ := n10
          cases here with
          | true => exact pl10h k p m a v t s ky vl x i w hv hp
          | false => exact pl10n k p m a v t s ky vl x i w hv hp
        · by_cases n6 : cd = 6 ∧ valued k = false
          · obtain ⟨rfl, hv⟩ := n6
            cases here with
            | true => exact pl6h k p m a v t s ky vl x i w hv hp
            | false =>
              by_cases hf : (s.keys.length : Int) = m
              · exact pl6f k p m a v t s ky vl x i w hv hf hp
              · exact pl6w k p m a v t s ky vl x i w hv hf hp
          · by_cases n11 : cd = 11 ∧ valued k = true
            · obtain ⟨rfl, hv⟩ := n11
              cases here with
              | true => exact pl11h k p m a v t s ky vl x i w hv hp
              | false =>
                by_cases hf : (s.keys.length : Int) = m
                · exact pl11f k p m a v t s ky vl x i w hv hf hp
                · exact pl11w k p m a v t s ky vl x i w hv hf hp
            · cases here with
              | true => exact plbadh k p m a v t s cd ky vl x i w h7 h8 n5 n10 n6 n11 hp
              | false => exact plbadn k p m a v t s cd ky vl x i w h7 h8 n5 n10 n6 n11 hp

end Go.Proofs.YtmonkcekkhfafaaGreatDoor.Aut

/- AutCast:
  What the document's cast does and tells: a vote. Conditions: integers' bounds; the state's slices are there, as many votes as there may be.
-/
namespace Go.Proofs.YtmonkcekkhfafaaGreatDoor.Aut
open Go.RowKit (Below intOf)
open Reg (cf bx)

theorem NS.alloc {w : World} {sl : Option Addr} {n c : Nat} {xs : List Int} (h : NS w sl n c xs) (o : Obj) : NS (w.alloc o) sl n c xs := h.ext (Ext.new w o)
theorem NS.drew {w : World} {sl : Option Addr} {n c : Nat} {xs : List Int} (h : NS w sl n c xs) : NS w.drew sl n c xs := h.ext (Ext.drew (Ext.refl w))
/-- One int of a slice anew. -/
theorem NS.upd {w : World} {g n c i : Nat} {x : Int} {xs : List Int} (h : NS w (some ⟨g, 0, none⟩) n c xs) (hi : i < n) (hx : I64 x) : NS (w.setCell ⟨g, i, none⟩ (.int .i64 x)) (some ⟨g, 0, none⟩) n c (xs.set i x) := by
  refine ⟨by rw [List.length_set]; exact h.1, h.2.1, h.2.2.1, h.2.2.2.1, fun j y hj => ?_⟩
  by_cases e : i = j
  · subst e
    rw [List.getElem?_set_self (by rw [h.1]; exact hi)] at hj
    cases hj
    obtain ⟨z, _, _, b, o, e0, hc⟩ := h.get hi
    cases e0
    rw [Nat.zero_add] at hc
    exact ⟨hx, g, 0, rfl, by rw [Nat.zero_add]; exact World.cell?_setCell_same' _ _ _ (by rw [hc]; rfl)⟩
  · rw [List.getElem?_set_ne e] at hj
    obtain ⟨hu, b, o, e0, hc⟩ := h.2.2.2.2 j y hj
    cases e0
    exact ⟨hu, g, 0, rfl, by rw [set_far (by omega)]; exact hc⟩
set_option maxHeartbeats 8000000 in
set_option maxRecDepth 100000 in
theorem cast_any (k p : Int) (m : Nat) (a v t : Sl) (s : St) (o : Cl) (w : World) (hS : SS w a v t s) (ho : Wc o) (hm : s.votes.length = m) (hl : m ≤ 256) :
    Calls Tryz.prog 104 #[cf k p m, sv s.reg a v t s.closed, ov o] w (DE a v t (castS m s o) w) := by
  obtain ⟨ka, kn, kc⟩ := a
  obtain ⟨va, vn, vc⟩ := v
  obtain ⟨ta, tn, tc⟩ := t
  obtain ⟨r, ks, vs, vt, cl⟩ := s
  obtain ⟨cd, ky, vl⟩ := o
  have hr := hS.1
  have HS := Lib.hid hS
  have htl : RowKit.Hid (tn = m) := Lib.hid (by rw [← hm]; exact hS.2.2.2.len.symm)
  obtain ⟨_, hky, hvl⟩ := ho
  clear hS hm
  dsimp only [sv, ov] at *
  have hwm : IntKind.u64.wrap (m : Int) = m := by first | exact IntWalk.u64_in _ (by omega) | (simp [IntKind.wrap, IntKind.bits, IntKind.signed]; omega)
  by_cases h1 : (m : Int) ≤ ky
  · have b1 : decide ((m : Int) ≤ ky) = true := decide_eq_true h1
    have hz : RowKit.Hid (castS m ⟨r, ks, vs, vt, cl⟩ ⟨cd, ky, vl⟩ = (⟨r, ks, vs, vt, cl⟩, (10, 0))) := Lib.hid (by unfold castS; rw [if_pos (.inl h1)])
    go_enter Tryz.func104, Tryz.ntmps104
    go_wp2_with (fail)
    go_region_held3 (fun w' => (w'.cell? ⟨w.heap.size + 1, 0, none⟩ = some (.int .u64 r) ∧ w'.cell? ⟨w.heap.size + 1, 1, none⟩ = some (.slice ka kn kc) ∧ w'.cell? ⟨w.heap.size + 1, 2, none⟩ = some (.slice va vn vc) ∧ w'.cell? ⟨w.heap.size + 1, 3, none⟩ = some (.slice ta tn tc) ∧ w'.cell? ⟨w.heap.size + 1, 4, none⟩ = some (.bool cl)))
      (first | ((show Five _ (w.heap.size + 1) r ⟨ka, kn, kc⟩ ⟨va, vn, vc⟩ ⟨ta, tn, tc⟩ cl); repeat (first | ((with_reducible refine five_at ?_); (simp; done)) | with_reducible refine Five.alloc ?_ _ | with_reducible refine Five.drew ?_ | with_reducible refine Five.set ?_ (by omega) _ _)) | go_keep)
      (first
        | (go_at_call 100; (with_reducible refine (refuses_is _ _).mono ?_); rintro e w1 ⟨rfl, rfl⟩))
    rename_i hq
    clear hq
    go_wp2_with (fail)
    refine bodyPost_ret (v := .tuple #[sv r ⟨ka, kn, kc⟩ ⟨va, vn, vc⟩ ⟨ta, tn, tc⟩ cl, rv 10 (0)]) (by simp [results, Tryz.results104, go_sem]) rfl ?_
    rw [hz.out]
    refine ⟨?_, _, _, _, rfl, ⟨hr, HS.out.2.1.ext ?_, HS.out.2.2.1.ext ?_, HS.out.2.2.2.ext ?_⟩, fun _ _ h => h⟩ <;> repeat (first | with_reducible exact Ext.refl _ | with_reducible refine Ext.alloc ?_ _ | with_reducible refine Ext.drew ?_)
  · have b1 : decide ((m : Int) ≤ ky) = false := decide_eq_false h1
    by_cases h2 : vl < 1
    · have b2 : decide (vl < 1) = true := decide_eq_true h2
      have hz : RowKit.Hid (castS m ⟨r, ks, vs, vt, cl⟩ ⟨cd, ky, vl⟩ = (⟨r, ks, vs, vt, cl⟩, (10, 0))) := Lib.hid (by unfold castS; rw [if_pos (.inr (.inl h2))])
      go_enter Tryz.func104, Tryz.ntmps104
      go_wp2_with (fail)
      go_region_held3 (fun w' => (w'.cell? ⟨w.heap.size + 1, 0, none⟩ = some (.int .u64 r) ∧ w'.cell? ⟨w.heap.size + 1, 1, none⟩ = some (.slice ka kn kc) ∧ w'.cell? ⟨w.heap.size + 1, 2, none⟩ = some (.slice va vn vc) ∧ w'.cell? ⟨w.heap.size + 1, 3, none⟩ = some (.slice ta tn tc) ∧ w'.cell? ⟨w.heap.size + 1, 4, none⟩ = some (.bool cl)))
        (first | ((show Five _ (w.heap.size + 1) r ⟨ka, kn, kc⟩ ⟨va, vn, vc⟩ ⟨ta, tn, tc⟩ cl); repeat (first | ((with_reducible refine five_at ?_); (simp; done)) | with_reducible refine Five.alloc ?_ _ | with_reducible refine Five.drew ?_ | with_reducible refine Five.set ?_ (by omega) _ _)) | go_keep)
        (first
          | (go_at_call 100; (with_reducible refine (refuses_is _ _).mono ?_); rintro e w1 ⟨rfl, rfl⟩))
      rename_i hq
      clear hq
      go_wp2_with (fail)
      refine bodyPost_ret (v := .tuple #[sv r ⟨ka, kn, kc⟩ ⟨va, vn, vc⟩ ⟨ta, tn, tc⟩ cl, rv 10 (0)]) (by simp [results, Tryz.results104, go_sem]) rfl ?_
      rw [hz.out]
      refine ⟨?_, _, _, _, rfl, ⟨hr, HS.out.2.1.ext ?_, HS.out.2.2.1.ext ?_, HS.out.2.2.2.ext ?_⟩, fun _ _ h => h⟩ <;> repeat (first | with_reducible exact Ext.refl _ | with_reducible refine Ext.alloc ?_ _ | with_reducible refine Ext.drew ?_)
    · have b2 : decide (vl < 1) = false := decide_eq_false h2
      by_cases h3 : 8 < vl
      · have b3 : decide (8 < vl) = true := decide_eq_true h3
        have hz : RowKit.Hid (castS m ⟨r, ks, vs, vt, cl⟩ ⟨cd, ky, vl⟩ = (⟨r, ks, vs, vt, cl⟩, (10, 0))) := Lib.hid (by unfold castS; rw [if_pos (.inr (.inr h3))])
        go_enter Tryz.func104, Tryz.ntmps104
        go_wp2_with (fail)
        go_region_held3 (fun w' => (w'.cell? ⟨w.heap.size + 1, 0, none⟩ = some (.int .u64 r) ∧ w'.cell? ⟨w.heap.size + 1, 1, none⟩ = some (.slice ka kn kc) ∧ w'.cell? ⟨w.heap.size + 1, 2, none⟩ = some (.slice va vn vc) ∧ w'.cell? ⟨w.heap.size + 1, 3, none⟩ = some (.slice ta tn tc) ∧ w'.cell? ⟨w.heap.size + 1, 4, none⟩ = some (.bool cl)))
          (first | ((show Five _ (w.heap.size + 1) r ⟨ka, kn, kc⟩ ⟨va, vn, vc⟩ ⟨ta, tn, tc⟩ cl); repeat (first | ((with_reducible refine five_at ?_); (simp; done)) | with_reducible refine Five.alloc ?_ _ | with_reducible refine Five.drew ?_ | with_reducible refine Five.set ?_ (by omega) _ _)) | go_keep)
          (first
            | (go_at_call 100; (with_reducible refine (refuses_is _ _).mono ?_); rintro e w1 ⟨rfl, rfl⟩))
        rename_i hq
        clear hq
        go_wp2_with (fail)
        refine bodyPost_ret (v := .tuple #[sv r ⟨ka, kn, kc⟩ ⟨va, vn, vc⟩ ⟨ta, tn, tc⟩ cl, rv 10 (0)]) (by simp [results, Tryz.results104, go_sem]) rfl ?_
        rw [hz.out]
        refine ⟨?_, _, _, _, rfl, ⟨hr, HS.out.2.1.ext ?_, HS.out.2.2.1.ext ?_, HS.out.2.2.2.ext ?_⟩, fun _ _ h => h⟩ <;> repeat (first | with_reducible exact Ext.refl _ | with_reducible refine Ext.alloc ?_ _ | with_reducible refine Ext.drew ?_)
      · have b3 : decide (8 < vl) = false := decide_eq_false h3
        by_cases hc : cl = true
        · subst hc
          have hz : RowKit.Hid (castS m ⟨r, ks, vs, vt, true⟩ ⟨cd, ky, vl⟩ = (⟨r, ks, vs, vt, true⟩, (14, 0))) := Lib.hid (by simp [castS, h1, h2, h3])
          go_enter Tryz.func104, Tryz.ntmps104
          go_wp2_with (fail)
          go_region_held3 (fun w' => (w'.cell? ⟨w.heap.size + 1, 0, none⟩ = some (.int .u64 r) ∧ w'.cell? ⟨w.heap.size + 1, 1, none⟩ = some (.slice ka kn kc) ∧ w'.cell? ⟨w.heap.size + 1, 2, none⟩ = some (.slice va vn vc) ∧ w'.cell? ⟨w.heap.size + 1, 3, none⟩ = some (.slice ta tn tc) ∧ w'.cell? ⟨w.heap.size + 1, 4, none⟩ = some (.bool true)))
            (first | ((show Five _ (w.heap.size + 1) r ⟨ka, kn, kc⟩ ⟨va, vn, vc⟩ ⟨ta, tn, tc⟩ true); repeat (first | ((with_reducible refine five_at ?_); (simp; done)) | with_reducible refine Five.alloc ?_ _ | with_reducible refine Five.drew ?_ | with_reducible refine Five.set ?_ (by omega) _ _)) | go_keep)
            (first
              | (go_at_call 100; (with_reducible refine (refuses_is _ _).mono ?_); rintro e w1 ⟨rfl, rfl⟩))
          rename_i hq
          clear hq
          go_wp2_with (fail)
          refine bodyPost_ret (v := .tuple #[sv r ⟨ka, kn, kc⟩ ⟨va, vn, vc⟩ ⟨ta, tn, tc⟩ true, rv 14 (0)]) (by simp [results, Tryz.results104, go_sem]) rfl ?_
          rw [hz.out]
          refine ⟨?_, _, _, _, rfl, ⟨hr, HS.out.2.1.ext ?_, HS.out.2.2.1.ext ?_, HS.out.2.2.2.ext ?_⟩, fun _ _ h => h⟩ <;> repeat (first | with_reducible exact Ext.refl _ | with_reducible refine Ext.alloc ?_ _ | with_reducible refine Ext.drew ?_)
        · obtain rfl : cl = false := by simpa using hc
          obtain ⟨J, hJ⟩ : ∃ J : Nat, ky = J := ⟨ky.toNat, by have := hky.1; omega⟩
          subst hJ
          obtain ⟨y, hy, uy, b, o, e0, cy⟩ := HS.out.2.2.2.get (k := J) (by simp only; have := htl.out; omega)
          dsimp only at hy e0 cy
          subst e0
          have hji : (J : Int) < tn := by have := htl.out; omega
          have hJn : (J : Int).toNat = J := by omega
          have cyy := fun W (hW : Ext w W) => hW.cell cy
          have hbw : b < w.heap.size := World.block_lt_of_cell? w _ cy
          have hbw1 : b < w.heap.size + 1 := by omega
          have hbw2 : b < w.heap.size + 1 + 1 := by omega
          have hbw3 : b < w.heap.size + 1 + 1 + 1 := by omega
          have hbw4 : b < w.heap.size + 1 + 1 + 1 + 1 := by omega
          by_cases hy0 : y ≠ 0
          · have b4 : (y != 0) = true := by simpa using hy0
            have hz : RowKit.Hid (castS m ⟨r, ks, vs, vt, false⟩ ⟨cd, (J : Int), vl⟩ = (⟨r, ks, vs, vt, false⟩, (13, 0))) := Lib.hid (by simp [castS, h1, h2, h3, hy, hy0])
            clear hy hy0 cyy
            go_enter Tryz.func104, Tryz.ntmps104
            go_wp2_with (fail)
            go_region_held3 (fun w' => (w'.cell? ⟨w.heap.size + 1, 0, none⟩ = some (.int .u64 r) ∧ w'.cell? ⟨w.heap.size + 1, 1, none⟩ = some (.slice ka kn kc) ∧ w'.cell? ⟨w.heap.size + 1, 2, none⟩ = some (.slice va vn vc) ∧ w'.cell? ⟨w.heap.size + 1, 3, none⟩ = some (.slice (some ⟨b, o, none⟩) tn tc) ∧ w'.cell? ⟨w.heap.size + 1, 4, none⟩ = some (.bool false)))
              (first | ((show Five _ (w.heap.size + 1) r ⟨ka, kn, kc⟩ ⟨va, vn, vc⟩ ⟨some ⟨b, o, none⟩, tn, tc⟩ false); repeat (first | ((with_reducible refine five_at ?_); (simp; done)) | with_reducible refine Five.alloc ?_ _ | with_reducible refine Five.drew ?_ | with_reducible refine Five.set ?_ (by omega) _ _)) | go_keep)
              (first
                | (go_at_call 100; (with_reducible refine (refuses_is _ _).mono ?_); rintro e w1 ⟨rfl, rfl⟩))
            rename_i hq
            clear hq
            go_wp2_with (fail)
            refine bodyPost_ret (v := .tuple #[sv r ⟨ka, kn, kc⟩ ⟨va, vn, vc⟩ ⟨some ⟨b, o, none⟩, tn, tc⟩ false, rv 13 (0)]) (by simp [results, Tryz.results104, go_sem]) rfl ?_
            rw [hz.out]
            refine ⟨?_, _, _, _, rfl, ⟨hr, HS.out.2.1.ext ?_, HS.out.2.2.1.ext ?_, HS.out.2.2.2.ext ?_⟩, fun _ _ h => h⟩ <;> repeat (first | with_reducible exact Ext.refl _ | with_reducible refine Ext.alloc ?_ _ | with_reducible refine Ext.drew ?_)
          · have b4 : (y != 0) = false := by simpa using hy0
            have hv0 : y = 0 := by omega
            have hz : RowKit.Hid (castS m ⟨r, ks, vs, vt, false⟩ ⟨cd, (J : Int), vl⟩ = (⟨r, ks, vs, vt.set J vl, false⟩, (0, 0))) := Lib.hid (by simp [castS, h1, h2, h3, hy, hv0])
            have hwv : IntKind.i64.wrap vl = vl := IntWalk.i64_in _ (by have := hvl.1; omega)
            have hOw := fun W (hW : Ext w W) => own_any ⟨ka, kn, kc⟩ ⟨va, vn, vc⟩ ⟨some ⟨b, o, none⟩, tn, tc⟩ ⟨r, ks, vs, vt, false⟩ W (HS.out.ext hW)
            have hJt : J < tn := by have := htl.out; omega
            clear hy hv0 hy0 cyy
            go_enter Tryz.func104, Tryz.ntmps104
            go_wp2_with (fail)
            refine (hOw _ (by repeat (first | with_reducible exact Ext.refl _ | with_reducible refine Ext.alloc ?_ _ | with_reducible refine Ext.drew ?_))).mono ?_
            rintro e w1 ⟨hE1, ⟨ka2, kn2, kc2⟩, ⟨va2, vn2, vc2⟩, ⟨ta2, tn2, tc2⟩, rfl, hS1, hOff, hVo⟩
            obtain ⟨_, hK1, hV1, hT1⟩ := hS1
            dsimp only at hK1 hV1 hT1 hVo hOff ⊢
            have htn2 : tn2 = tn := by rw [← hT1.len]; exact HS.out.2.2.2.len
            subst htn2
            obtain ⟨g, rfl, hgw, hfr, hOk, hOv⟩ := hVo (by omega)
            simp only [World.size_alloc] at hgw
            obtain ⟨y1, hy1, _, b1, o1, e1, cy1⟩ := hT1.get (k := J) hJt
            cases e1
            rw [Nat.zero_add] at cy1
            have hfrJ := hfr J
            have hgl : g < w1.heap.size := World.block_lt_of_cell? w1 _ cy1
            have F30 : Five w1 (w.heap.size + 1 + 1 + 1) 0 nilSl nilSl nilSl false := Five.ext (by ((show Five _ (w.heap.size + 1 + 1 + 1) 0 ⟨none, 0, 0⟩ ⟨none, 0, 0⟩ ⟨none, 0, 0⟩ false); repeat (first | ((with_reducible refine five_at ?_); (simp; done)) | with_reducible refine Five.alloc ?_ _))) hE1
            have T40 : Two w1 (w.heap.size + 1 + 1 + 1 + 1) 0 0 := two_ext hE1 (by repeat (first | ((with_reducible refine two_at ?_); (simp; done)) | with_reducible refine two_alloc ?_ _))
            obtain ⟨l1, l2⟩ := lay hE1
            have hs1 : w.heap.size + 1 + 1 + 1 + 1 < w1.heap.size := by have := hE1.size; simp at this; omega
            have hs2 : w.heap.size + 1 + 1 + 1 < w1.heap.size := by omega
            have hs3 : w.heap.size + 1 + 1 < w1.heap.size := by omega
            have hs1p : w.heap.size + 1 + 1 + 1 + 1 < w1.heap.size + 1 := by omega
            have hs2p : w.heap.size + 1 + 1 + 1 < w1.heap.size + 1 := by omega
            have HE1 : RowKit.Hid (Ext w w1) := Lib.hid (Ext.trans (by repeat (first | with_reducible exact Ext.refl _ | with_reducible refine Ext.alloc ?_ _ | with_reducible refine Ext.drew ?_)) hE1)
            simp only [World.size_alloc] at l1 l2
            have hgn3 : w.heap.size + 1 + 1 + 1 ≠ g := by omega
            have hgn4 : w.heap.size + 1 + 1 + 1 + 1 ≠ g := by omega
            have hU := hT1.upd hJt (x := vl) (by have := hvl.1; unfold I64; omega)
            have hKg := hK1.farN hOk J (.int .i64 vl)
            have hVg := hV1.farN hOv J (.int .i64 vl)
            go_wp2_with (fail)
            go_region_held3 (fun w' => (w'.cell? ⟨w1.heap.size, 0, none⟩ = some (.int .u64 r) ∧ w'.cell? ⟨w1.heap.size, 1, none⟩ = some (.slice ka2 kn2 kc2) ∧ w'.cell? ⟨w1.heap.size, 2, none⟩ = some (.slice va2 vn2 vc2) ∧ w'.cell? ⟨w1.heap.size, 3, none⟩ = some (.slice (some ⟨g, 0, none⟩) tn2 tc2) ∧ w'.cell? ⟨w1.heap.size, 4, none⟩ = some (.bool false)))
              (first | ((show Five _ w1.heap.size r ⟨ka2, kn2, kc2⟩ ⟨va2, vn2, vc2⟩ ⟨some ⟨g, 0, none⟩, tn2, tc2⟩ false); repeat (first | ((with_reducible refine five_at ?_); (simp; done)) | with_reducible refine Five.alloc ?_ _ | with_reducible refine Five.drew ?_ | with_reducible refine Five.set ?_ (by omega) _ _)) | go_keep)
              (first
                | (go_at_call 97; (with_reducible refine (tells_is _ _).mono ?_); rintro e w2 ⟨rfl, rfl⟩))
            rename_i hq
            clear hq
            go_wp2_with (fail)
            have hsB : ∀ jj, jj < 5 → ((w1.setCell ⟨g, J, none⟩ (.int .i64 vl)).cell? ⟨w.heap.size + 1 + 1 + 1, jj, none⟩).isSome = true := fun jj hjj => by
              rw [cell_far (by omega)]; exact F30.some jj hjj
            have hsC : ∀ jj, jj < 2 → ((w1.setCell ⟨g, J, none⟩ (.int .i64 vl)).cell? ⟨w.heap.size + 1 + 1 + 1 + 1, jj, none⟩).isSome = true := fun jj hjj => by
              rw [cell_far (by omega)]; exact T40.some jj hjj
            obtain ⟨⟨q0, q1, q2, q3, q4⟩, z0, z1⟩ := fin_both hsB hsC (by omega) r ⟨ka2, kn2, kc2⟩ ⟨va2, vn2, vc2⟩ ⟨some ⟨g, 0, none⟩, tn2, tc2⟩ false 0 0 ((((Ext.refl _).alloc (.cells #[.int .u64 r, .slice ka2 kn2 kc2, .slice va2 vn2 vc2, .slice (some ⟨g, 0, none⟩) tn2 tc2, .bool false] 30)).alloc (.cells #[.int .i64 0, .int .u64 0] 63)).drew)
            refine bodyPost_ret (v := .tuple #[sv r ⟨ka2, kn2, kc2⟩ ⟨va2, vn2, vc2⟩ ⟨some ⟨g, 0, none⟩, tn2, tc2⟩ false, rv 0 0]) (by simp [results, Tryz.results104, go_sem, q0, q1, q2, q3, q4, z0, z1]) rfl ?_
            rw [hz.out]
            refine ⟨by repeat (first | with_reducible exact HE1.out | with_reducible refine Ext.alloc ?_ _ | with_reducible refine Ext.drew ?_ | with_reducible refine Ext.setCell ?_ (by omega) _), _, _, _, rfl, ⟨hr, ?_, ?_, ?_⟩, fun B hB _ => ⟨fun _ => (hOff B (by simp only [World.size_alloc]; omega)).1, fun _ => (hOff B (by simp only [World.size_alloc]; omega)).2.1, fun _ => (hOff B (by simp only [World.size_alloc]; omega)).2.2⟩⟩
            · repeat (first | with_reducible exact hKg | with_reducible refine WS.alloc ?_ _ | with_reducible refine WS.drew ?_ | with_reducible refine WS.far ?_ ((hOff _ (by simp only [World.size_alloc]; omega)).1) _ _)
            · repeat (first | with_reducible exact hVg | with_reducible refine WS.alloc ?_ _ | with_reducible refine WS.drew ?_ | with_reducible refine WS.far ?_ ((hOff _ (by simp only [World.size_alloc]; omega)).2.1) _ _)
            · repeat (first | with_reducible exact hU | with_reducible refine NS.alloc ?_ _ | with_reducible refine NS.drew ?_ | with_reducible refine NS.far ?_ ((hOff _ (by simp only [World.size_alloc]; omega)).2.2) _ _)

end Go.Proofs.YtmonkcekkhfafaaGreatDoor.Aut

/- AutBallot:
  What the document's ballot does and tells, call by call (but for a vote, and for a tally). Conditions: integers' bounds; the state's slices are there, as many votes as there may be, each from 0 to 8.
-/
namespace Go.Proofs.YtmonkcekkhfafaaGreatDoor.Aut
open Go.RowKit (Below intOf)
open Reg (cf bx)

/-- A call's box. -/
def Opb (w : World) (b : Nat) (cd ky vl : Int) : Prop := w.cell? ⟨b, 0, none⟩ = some (.int .i64 cd) ∧ w.cell? ⟨b, 1, none⟩ = some (.int .u64 ky) ∧ w.cell? ⟨b, 2, none⟩ = some (.int .u64 vl)
theorem Opb.ext {w w' : World} {b : Nat} {cd ky vl : Int} (h : Opb w b cd ky vl) (e : Ext w w') : Opb w' b cd ky vl := ⟨e.cell h.1, e.cell h.2.1, e.cell h.2.2⟩
theorem Opb.alloc {w : World} {b : Nat} {cd ky vl : Int} (h : Opb w b cd ky vl) (o : Obj) : Opb (w.alloc o) b cd ky vl := h.ext (Ext.new w o)
theorem Opb.drew {w : World} {b : Nat} {cd ky vl : Int} (h : Opb w b cd ky vl) : Opb w.drew b cd ky vl := h.ext (Ext.drew (Ext.refl w))
theorem opb_at {X : World} {B : Nat} {cd ky vl : Int} (h : X.heap.size = B) : Opb (X.alloc (.cells #[.int .i64 cd, .int .u64 ky, .int .u64 vl] 67)) B cd ky vl := by
  subst h
  refine ⟨?_, ?_, ?_⟩ <;> (unfold World.cell?; rw [World.alloc_heap_new]; rfl)

set_option maxHeartbeats 4000000 in
set_option maxRecDepth 100000 in
theorem ba13 (k p : Int) (m : Nat) (a v t : Sl) (s : St) (ky vl : Int) (w : World) (hS : SS w a v t s) (ho : Wc ⟨13, ky, vl⟩) (hm : s.votes.length = m) (hl : m ≤ 256) :
    Calls Tryz.prog 60 #[cf k p m, sv s.reg a v t s.closed, ov ⟨13, ky, vl⟩] w (DE a v t (ballotS m s ⟨13, ky, vl⟩) w) := by
  obtain ⟨ka, kn, kc⟩ := a
  obtain ⟨va, vn, vc⟩ := v
  obtain ⟨ta, tn, tc⟩ := t
  obtain ⟨r, ks, vs, vt, cl⟩ := s
  have hr := hS.1
  have HS := Lib.hid hS
  have htl : RowKit.Hid (tn = m) := Lib.hid (by rw [← hm]; exact hS.2.2.2.len.symm)
  obtain ⟨_, hky, hvl⟩ := ho
  clear hS hm
  dsimp only [sv, ov] at *
  have hwm : IntKind.u64.wrap (m : Int) = m := by first | exact IntWalk.u64_in _ (by omega) | (simp [IntKind.wrap, IntKind.bits, IntKind.signed]; omega)
  cases cl with
  | true =>
    have hz : RowKit.Hid (ballotS m ⟨r, ks, vs, vt, true⟩ ⟨13, ky, vl⟩ = (⟨r, ks, vs, vt, true⟩, (0, bitZ (!true)))) := Lib.hid (by rfl)
    go_enter Tryz.func60, Tryz.ntmps60
    go_wp2_with (fail)
    go_region_held3 (fun w' => (w'.cell? ⟨w.heap.size + 1 + 1 + 1 + 1 + 1, 0, none⟩ = some (.int .u64 r) ∧ w'.cell? ⟨w.heap.size + 1 + 1 + 1 + 1 + 1, 1, none⟩ = some (.slice ka kn kc) ∧ w'.cell? ⟨w.heap.size + 1 + 1 + 1 + 1 + 1, 2, none⟩ = some (.slice va vn vc) ∧ w'.cell? ⟨w.heap.size + 1 + 1 + 1 + 1 + 1, 3, none⟩ = some (.slice ta tn tc) ∧ w'.cell? ⟨w.heap.size + 1 + 1 + 1 + 1 + 1, 4, none⟩ = some (.bool true) ∧ w'.cell? ⟨w.heap.size + 1, 4, none⟩ = some (.bool true)))
      (first | exact and5 (by ((show Five _ (w.heap.size + 1 + 1 + 1 + 1 + 1) r ⟨ka, kn, kc⟩ ⟨va, vn, vc⟩ ⟨ta, tn, tc⟩ true); repeat (first | ((with_reducible refine five_at ?_); (simp; done)) | with_reducible refine Five.alloc ?_ _ | with_reducible refine Five.drew ?_ | with_reducible refine Five.set ?_ (by omega) _ _))) (show Five _ (w.heap.size + 1) r ⟨ka, kn, kc⟩ ⟨va, vn, vc⟩ ⟨ta, tn, tc⟩ true by ((show Five _ (w.heap.size + 1) r ⟨ka, kn, kc⟩ ⟨va, vn, vc⟩ ⟨ta, tn, tc⟩ true); repeat (first | ((with_reducible refine five_at ?_); (simp; done)) | with_reducible refine Five.alloc ?_ _ | with_reducible refine Five.drew ?_ | with_reducible refine Five.set ?_ (by omega) _ _))).2.2.2.2 | go_keep)
      (first
        | (go_at_call 105; (with_reducible refine (bit_any _ _).mono ?_); rintro e w1 ⟨rfl, rfl⟩)
        | (go_at_call 97; (with_reducible refine (tells_is _ _).mono ?_); rintro e w1 ⟨rfl, rfl⟩))
    rename_i hq
    clear hq
    go_wp2_with (fail)
    refine bodyPost_ret (v := .tuple #[sv r ⟨ka, kn, kc⟩ ⟨va, vn, vc⟩ ⟨ta, tn, tc⟩ true, rv 0 (bitZ (!true))]) (by simp [results, Tryz.results60, go_sem]) rfl ?_
    rw [hz.out]
    refine ⟨?_, _, _, _, rfl, ⟨hr, HS.out.2.1.ext ?_, HS.out.2.2.1.ext ?_, HS.out.2.2.2.ext ?_⟩, fun _ _ h => h⟩ <;> repeat (first | with_reducible exact Ext.refl _ | with_reducible refine Ext.alloc ?_ _ | with_reducible refine Ext.drew ?_)
  | false =>
    have hz : RowKit.Hid (ballotS m ⟨r, ks, vs, vt, false⟩ ⟨13, ky, vl⟩ = (⟨r, ks, vs, vt, true⟩, (0, bitZ (!false)))) := Lib.hid (by rfl)
    go_enter Tryz.func60, Tryz.ntmps60
    go_wp2_with (fail)
    go_region_held3 (fun w' => (w'.cell? ⟨w.heap.size + 1 + 1 + 1 + 1 + 1, 0, none⟩ = some (.int .u64 r) ∧ w'.cell? ⟨w.heap.size + 1 + 1 + 1 + 1 + 1, 1, none⟩ = some (.slice ka kn kc) ∧ w'.cell? ⟨w.heap.size + 1 + 1 + 1 + 1 + 1, 2, none⟩ = some (.slice va vn vc) ∧ w'.cell? ⟨w.heap.size + 1 + 1 + 1 + 1 + 1, 3, none⟩ = some (.slice ta tn tc) ∧ w'.cell? ⟨w.heap.size + 1 + 1 + 1 + 1 + 1, 4, none⟩ = some (.bool true) ∧ w'.cell? ⟨w.heap.size + 1, 4, none⟩ = some (.bool false)))
      (first | exact and5 (by ((show Five _ (w.heap.size + 1 + 1 + 1 + 1 + 1) r ⟨ka, kn, kc⟩ ⟨va, vn, vc⟩ ⟨ta, tn, tc⟩ true); repeat (first | ((with_reducible refine five_at ?_); (simp; done)) | with_reducible refine Five.alloc ?_ _ | with_reducible refine Five.drew ?_ | with_reducible refine Five.set ?_ (by omega) _ _))) (show Five _ (w.heap.size + 1) r ⟨ka, kn, kc⟩ ⟨va, vn, vc⟩ ⟨ta, tn, tc⟩ false by ((show Five _ (w.heap.size + 1) r ⟨ka, kn, kc⟩ ⟨va, vn, vc⟩ ⟨ta, tn, tc⟩ false); repeat (first | ((with_reducible refine five_at ?_); (simp; done)) | with_reducible refine Five.alloc ?_ _ | with_reducible refine Five.drew ?_ | with_reducible refine Five.set ?_ (by omega) _ _))).2.2.2.2 | go_keep)
      (first
        | (go_at_call 105; (with_reducible refine (bit_any _ _).mono ?_); rintro e w1 ⟨rfl, rfl⟩)
        | (go_at_call 97; (with_reducible refine (tells_is _ _).mono ?_); rintro e w1 ⟨rfl, rfl⟩))
    rename_i hq
    clear hq
    go_wp2_with (fail)
    refine bodyPost_ret (v := .tuple #[sv r ⟨ka, kn, kc⟩ ⟨va, vn, vc⟩ ⟨ta, tn, tc⟩ true, rv 0 (bitZ (!false))]) (by simp [results, Tryz.results60, go_sem]) rfl ?_
    rw [hz.out]
    refine ⟨?_, _, _, _, rfl, ⟨hr, HS.out.2.1.ext ?_, HS.out.2.2.1.ext ?_, HS.out.2.2.2.ext ?_⟩, fun _ _ h => h⟩ <;> repeat (first | with_reducible exact Ext.refl _ | with_reducible refine Ext.alloc ?_ _ | with_reducible refine Ext.drew ?_)

set_option maxHeartbeats 4000000 in
set_option maxRecDepth 100000 in
theorem ba16 (k p : Int) (m : Nat) (a v t : Sl) (s : St) (ky vl : Int) (w : World) (hS : SS w a v t s) (ho : Wc ⟨16, ky, vl⟩) (hm : s.votes.length = m) (hl : m ≤ 256) :
    Calls Tryz.prog 60 #[cf k p m, sv s.reg a v t s.closed, ov ⟨16, ky, vl⟩] w (DE a v t (ballotS m s ⟨16, ky, vl⟩) w) := by
  obtain ⟨ka, kn, kc⟩ := a
  obtain ⟨va, vn, vc⟩ := v
  obtain ⟨ta, tn, tc⟩ := t
  obtain ⟨r, ks, vs, vt, cl⟩ := s
  have hr := hS.1
  have HS := Lib.hid hS
  have htl : RowKit.Hid (tn = m) := Lib.hid (by rw [← hm]; exact hS.2.2.2.len.symm)
  obtain ⟨_, hky, hvl⟩ := ho
  clear hS hm
  dsimp only [sv, ov] at *
  have hwm : IntKind.u64.wrap (m : Int) = m := by first | exact IntWalk.u64_in _ (by omega) | (simp [IntKind.wrap, IntKind.bits, IntKind.signed]; omega)
  cases cl with
  | true =>
    have hz : RowKit.Hid (ballotS m ⟨r, ks, vs, vt, true⟩ ⟨16, ky, vl⟩ = (⟨r, ks, vs, vt, true⟩, (0, bitZ true))) := Lib.hid (by rfl)
    go_enter Tryz.func60, Tryz.ntmps60
    go_wp2_with (fail)
    go_region_held3 (fun w' => (w'.cell? ⟨w.heap.size + 1, 0, none⟩ = some (.int .u64 r) ∧ w'.cell? ⟨w.heap.size + 1, 1, none⟩ = some (.slice ka kn kc) ∧ w'.cell? ⟨w.heap.size + 1, 2, none⟩ = some (.slice va vn vc) ∧ w'.cell? ⟨w.heap.size + 1, 3, none⟩ = some (.slice ta tn tc) ∧ w'.cell? ⟨w.heap.size + 1, 4, none⟩ = some (.bool true)))
      (first | ((show Five _ (w.heap.size + 1) r ⟨ka, kn, kc⟩ ⟨va, vn, vc⟩ ⟨ta, tn, tc⟩ true); repeat (first | ((with_reducible refine five_at ?_); (simp; done)) | with_reducible refine Five.alloc ?_ _ | with_reducible refine Five.drew ?_ | with_reducible refine Five.set ?_ (by omega) _ _)) | go_keep)
      (first
        | (go_at_call 105; (with_reducible refine (bit_any _ _).mono ?_); rintro e w1 ⟨rfl, rfl⟩)
        | (go_at_call 97; (with_reducible refine (tells_is _ _).mono ?_); rintro e w1 ⟨rfl, rfl⟩))
    rename_i hq
    clear hq
    go_wp2_with (fail)
    refine bodyPost_ret (v := .tuple #[sv r ⟨ka, kn, kc⟩ ⟨va, vn, vc⟩ ⟨ta, tn, tc⟩ true, rv 0 (bitZ true)]) (by simp [results, Tryz.results60, go_sem]) rfl ?_
    rw [hz.out]
    refine ⟨?_, _, _, _, rfl, ⟨hr, HS.out.2.1.ext ?_, HS.out.2.2.1.ext ?_, HS.out.2.2.2.ext ?_⟩, fun _ _ h => h⟩ <;> repeat (first | with_reducible exact Ext.refl _ | with_reducible refine Ext.alloc ?_ _ | with_reducible refine Ext.drew ?_)
  | false =>
    have hz : RowKit.Hid (ballotS m ⟨r, ks, vs, vt, false⟩ ⟨16, ky, vl⟩ = (⟨r, ks, vs, vt, false⟩, (0, bitZ false))) := Lib.hid (by rfl)
    go_enter Tryz.func60, Tryz.ntmps60
    go_wp2_with (fail)
    go_region_held3 (fun w' => (w'.cell? ⟨w.heap.size + 1, 0, none⟩ = some (.int .u64 r) ∧ w'.cell? ⟨w.heap.size + 1, 1, none⟩ = some (.slice ka kn kc) ∧ w'.cell? ⟨w.heap.size + 1, 2, none⟩ = some (.slice va vn vc) ∧ w'.cell? ⟨w.heap.size + 1, 3, none⟩ = some (.slice ta tn tc) ∧ w'.cell? ⟨w.heap.size + 1, 4, none⟩ = some (.bool false)))
      (first | ((show Five _ (w.heap.size + 1) r ⟨ka, kn, kc⟩ ⟨va, vn, vc⟩ ⟨ta, tn, tc⟩ false); repeat (first | ((with_reducible refine five_at ?_); (simp; done)) | with_reducible refine Five.alloc ?_ _ | with_reducible refine Five.drew ?_ | with_reducible refine Five.set ?_ (by omega) _ _)) | go_keep)
      (first
        | (go_at_call 105; (with_reducible refine (bit_any _ _).mono ?_); rintro e w1 ⟨rfl, rfl⟩)
        | (go_at_call 97; (with_reducible refine (tells_is _ _).mono ?_); rintro e w1 ⟨rfl, rfl⟩))
    rename_i hq
    clear hq
    go_wp2_with (fail)
    refine bodyPost_ret (v := .tuple #[sv r ⟨ka, kn, kc⟩ ⟨va, vn, vc⟩ ⟨ta, tn, tc⟩ false, rv 0 (bitZ false)]) (by simp [results, Tryz.results60, go_sem]) rfl ?_
    rw [hz.out]
    refine ⟨?_, _, _, _, rfl, ⟨hr, HS.out.2.1.ext ?_, HS.out.2.2.1.ext ?_, HS.out.2.2.2.ext ?_⟩, fun _ _ h => h⟩ <;> repeat (first | with_reducible exact Ext.refl _ | with_reducible refine Ext.alloc ?_ _ | with_reducible refine Ext.drew ?_)

set_option maxHeartbeats 4000000 in
set_option maxRecDepth 100000 in
theorem ba14l (k p : Int) (m : Nat) (a v t : Sl) (s : St) (ky vl : Int) (w : World) (h : ky < 1) (hS : SS w a v t s) (ho : Wc ⟨14, ky, vl⟩) (hm : s.votes.length = m) (hl : m ≤ 256) :
    Calls Tryz.prog 60 #[cf k p m, sv s.reg a v t s.closed, ov ⟨14, ky, vl⟩] w (DE a v t (ballotS m s ⟨14, ky, vl⟩) w) := by
  obtain ⟨ka, kn, kc⟩ := a
  obtain ⟨va, vn, vc⟩ := v
  obtain ⟨ta, tn, tc⟩ := t
  obtain ⟨r, ks, vs, vt, cl⟩ := s
  have hr := hS.1
  have HS := Lib.hid hS
  have htl : RowKit.Hid (tn = m) := Lib.hid (by rw [← hm]; exact hS.2.2.2.len.symm)
  obtain ⟨_, hky, hvl⟩ := ho
  clear hS hm
  dsimp only [sv, ov] at *
  have hwm : IntKind.u64.wrap (m : Int) = m := by first | exact IntWalk.u64_in _ (by omega) | (simp [IntKind.wrap, IntKind.bits, IntKind.signed]; omega)
  have b1 : decide (ky < 1) = true := decide_eq_true h
  have hz : RowKit.Hid (ballotS m ⟨r, ks, vs, vt, cl⟩ ⟨14, ky, vl⟩ = (⟨r, ks, vs, vt, cl⟩, (10, 0))) := Lib.hid (by simp [ballotS, h])
  clear h
  go_enter Tryz.func60, Tryz.ntmps60
  go_wp2_with (fail)
  go_region_held3 (fun w' => (w'.cell? ⟨w.heap.size + 1, 0, none⟩ = some (.int .u64 r) ∧ w'.cell? ⟨w.heap.size + 1, 1, none⟩ = some (.slice ka kn kc) ∧ w'.cell? ⟨w.heap.size + 1, 2, none⟩ = some (.slice va vn vc) ∧ w'.cell? ⟨w.heap.size + 1, 3, none⟩ = some (.slice ta tn tc) ∧ w'.cell? ⟨w.heap.size + 1, 4, none⟩ = some (.bool cl)))
    (first | ((show Five _ (w.heap.size + 1) r ⟨ka, kn, kc⟩ ⟨va, vn, vc⟩ ⟨ta, tn, tc⟩ cl); repeat (first | ((with_reducible refine five_at ?_); (simp; done)) | with_reducible refine Five.alloc ?_ _ | with_reducible refine Five.drew ?_ | with_reducible refine Five.set ?_ (by omega) _ _)) | go_keep)
    (first
      | (go_at_call 100; (with_reducible refine (refuses_is _ _).mono ?_); rintro e w1 ⟨rfl, rfl⟩))
  rename_i hq
  clear hq
  go_wp2_with (fail)
  refine bodyPost_ret (v := .tuple #[sv r ⟨ka, kn, kc⟩ ⟨va, vn, vc⟩ ⟨ta, tn, tc⟩ cl, rv 10 (0)]) (by simp [results, Tryz.results60, go_sem]) rfl ?_
  rw [hz.out]
  refine ⟨?_, _, _, _, rfl, ⟨hr, HS.out.2.1.ext ?_, HS.out.2.2.1.ext ?_, HS.out.2.2.2.ext ?_⟩, fun _ _ h => h⟩ <;> repeat (first | with_reducible exact Ext.refl _ | with_reducible refine Ext.alloc ?_ _ | with_reducible refine Ext.drew ?_)

set_option maxHeartbeats 4000000 in
set_option maxRecDepth 100000 in
theorem ba14h (k p : Int) (m : Nat) (a v t : Sl) (s : St) (ky vl : Int) (w : World) (h : 8 < ky) (hS : SS w a v t s) (ho : Wc ⟨14, ky, vl⟩) (hm : s.votes.length = m) (hl : m ≤ 256) :
    Calls Tryz.prog 60 #[cf k p m, sv s.reg a v t s.closed, ov ⟨14, ky, vl⟩] w (DE a v t (ballotS m s ⟨14, ky, vl⟩) w) := by
  obtain ⟨ka, kn, kc⟩ := a
  obtain ⟨va, vn, vc⟩ := v
  obtain ⟨ta, tn, tc⟩ := t
  obtain ⟨r, ks, vs, vt, cl⟩ := s
  have hr := hS.1
  have HS := Lib.hid hS
  have htl : RowKit.Hid (tn = m) := Lib.hid (by rw [← hm]; exact hS.2.2.2.len.symm)
  obtain ⟨_, hky, hvl⟩ := ho
  clear hS hm
  dsimp only [sv, ov] at *
  have hwm : IntKind.u64.wrap (m : Int) = m := by first | exact IntWalk.u64_in _ (by omega) | (simp [IntKind.wrap, IntKind.bits, IntKind.signed]; omega)
  have b1 : decide (ky < 1) = false := decide_eq_false (by omega)
  have b2 : decide (8 < ky) = true := decide_eq_true h
  have hz : RowKit.Hid (ballotS m ⟨r, ks, vs, vt, cl⟩ ⟨14, ky, vl⟩ = (⟨r, ks, vs, vt, cl⟩, (10, 0))) := Lib.hid (by simp [ballotS, h])
  clear h
  go_enter Tryz.func60, Tryz.ntmps60
  go_wp2_with (fail)
  go_region_held3 (fun w' => (w'.cell? ⟨w.heap.size + 1, 0, none⟩ = some (.int .u64 r) ∧ w'.cell? ⟨w.heap.size + 1, 1, none⟩ = some (.slice ka kn kc) ∧ w'.cell? ⟨w.heap.size + 1, 2, none⟩ = some (.slice va vn vc) ∧ w'.cell? ⟨w.heap.size + 1, 3, none⟩ = some (.slice ta tn tc) ∧ w'.cell? ⟨w.heap.size + 1, 4, none⟩ = some (.bool cl)))
    (first | ((show Five _ (w.heap.size + 1) r ⟨ka, kn, kc⟩ ⟨va, vn, vc⟩ ⟨ta, tn, tc⟩ cl); repeat (first | ((with_reducible refine five_at ?_); (simp; done)) | with_reducible refine Five.alloc ?_ _ | with_reducible refine Five.drew ?_ | with_reducible refine Five.set ?_ (by omega) _ _)) | go_keep)
    (first
      | (go_at_call 100; (with_reducible refine (refuses_is _ _).mono ?_); rintro e w1 ⟨rfl, rfl⟩))
  rename_i hq
  clear hq
  go_wp2_with (fail)
  refine bodyPost_ret (v := .tuple #[sv r ⟨ka, kn, kc⟩ ⟨va, vn, vc⟩ ⟨ta, tn, tc⟩ cl, rv 10 (0)]) (by simp [results, Tryz.results60, go_sem]) rfl ?_
  rw [hz.out]
  refine ⟨?_, _, _, _, rfl, ⟨hr, HS.out.2.1.ext ?_, HS.out.2.2.1.ext ?_, HS.out.2.2.2.ext ?_⟩, fun _ _ h => h⟩ <;> repeat (first | with_reducible exact Ext.refl _ | with_reducible refine Ext.alloc ?_ _ | with_reducible refine Ext.drew ?_)

set_option maxHeartbeats 4000000 in
set_option maxRecDepth 100000 in
theorem ba15n (k p : Int) (m : Nat) (a v t : Sl) (s : St) (ky vl : Int) (w : World) (h : (m : Int) ≤ ky) (hS : SS w a v t s) (ho : Wc ⟨15, ky, vl⟩) (hm : s.votes.length = m) (hl : m ≤ 256) :
    Calls Tryz.prog 60 #[cf k p m, sv s.reg a v t s.closed, ov ⟨15, ky, vl⟩] w (DE a v t (ballotS m s ⟨15, ky, vl⟩) w) := by
  obtain ⟨ka, kn, kc⟩ := a
  obtain ⟨va, vn, vc⟩ := v
  obtain ⟨ta, tn, tc⟩ := t
  obtain ⟨r, ks, vs, vt, cl⟩ := s
  have hr := hS.1
  have HS := Lib.hid hS
  have htl : RowKit.Hid (tn = m) := Lib.hid (by rw [← hm]; exact hS.2.2.2.len.symm)
  obtain ⟨_, hky, hvl⟩ := ho
  clear hS hm
  dsimp only [sv, ov] at *
  have hwm : IntKind.u64.wrap (m : Int) = m := by first | exact IntWalk.u64_in _ (by omega) | (simp [IntKind.wrap, IntKind.bits, IntKind.signed]; omega)
  have b1 : decide ((m : Int) ≤ ky) = true := decide_eq_true h
  have hz : RowKit.Hid (ballotS m ⟨r, ks, vs, vt, cl⟩ ⟨15, ky, vl⟩ = (⟨r, ks, vs, vt, cl⟩, (10, 0))) := Lib.hid (by simp [ballotS, h])
  clear h
  go_enter Tryz.func60, Tryz.ntmps60
  go_wp2_with (fail)
  go_region_held3 (fun w' => (w'.cell? ⟨w.heap.size + 1, 0, none⟩ = some (.int .u64 r) ∧ w'.cell? ⟨w.heap.size + 1, 1, none⟩ = some (.slice ka kn kc) ∧ w'.cell? ⟨w.heap.size + 1, 2, none⟩ = some (.slice va vn vc) ∧ w'.cell? ⟨w.heap.size + 1, 3, none⟩ = some (.slice ta tn tc) ∧ w'.cell? ⟨w.heap.size + 1, 4, none⟩ = some (.bool cl)))
    (first | ((show Five _ (w.heap.size + 1) r ⟨ka, kn, kc⟩ ⟨va, vn, vc⟩ ⟨ta, tn, tc⟩ cl); repeat (first | ((with_reducible refine five_at ?_); (simp; done)) | with_reducible refine Five.alloc ?_ _ | with_reducible refine Five.drew ?_ | with_reducible refine Five.set ?_ (by omega) _ _)) | go_keep)
    (first
      | (go_at_call 100; (with_reducible refine (refuses_is _ _).mono ?_); rintro e w1 ⟨rfl, rfl⟩))
  rename_i hq
  clear hq
  go_wp2_with (fail)
  refine bodyPost_ret (v := .tuple #[sv r ⟨ka, kn, kc⟩ ⟨va, vn, vc⟩ ⟨ta, tn, tc⟩ cl, rv 10 (0)]) (by simp [results, Tryz.results60, go_sem]) rfl ?_
  rw [hz.out]
  refine ⟨?_, _, _, _, rfl, ⟨hr, HS.out.2.1.ext ?_, HS.out.2.2.1.ext ?_, HS.out.2.2.2.ext ?_⟩, fun _ _ h => h⟩ <;> repeat (first | with_reducible exact Ext.refl _ | with_reducible refine Ext.alloc ?_ _ | with_reducible refine Ext.drew ?_)

set_option maxHeartbeats 4000000 in
set_option maxRecDepth 100000 in
theorem ba15y (k p : Int) (m : Nat) (a v t : Sl) (s : St) (ky vl : Int) (w : World) (h : ¬ (m : Int) ≤ ky) (hr8 : ∀ y ∈ s.votes, 0 ≤ y ∧ y ≤ 8) (hS : SS w a v t s) (ho : Wc ⟨15, ky, vl⟩) (hm : s.votes.length = m) (hl : m ≤ 256) :
    Calls Tryz.prog 60 #[cf k p m, sv s.reg a v t s.closed, ov ⟨15, ky, vl⟩] w (DE a v t (ballotS m s ⟨15, ky, vl⟩) w) := by
  obtain ⟨ka, kn, kc⟩ := a
  obtain ⟨va, vn, vc⟩ := v
  obtain ⟨ta, tn, tc⟩ := t
  obtain ⟨r, ks, vs, vt, cl⟩ := s
  have hr := hS.1
  have HS := Lib.hid hS
  have htl : RowKit.Hid (tn = m) := Lib.hid (by rw [← hm]; exact hS.2.2.2.len.symm)
  obtain ⟨_, hky, hvl⟩ := ho
  clear hS hm
  dsimp only [sv, ov] at *
  have hwm : IntKind.u64.wrap (m : Int) = m := by first | exact IntWalk.u64_in _ (by omega) | (simp [IntKind.wrap, IntKind.bits, IntKind.signed]; omega)
  have b1 : decide ((m : Int) ≤ ky) = false := decide_eq_false h
  obtain ⟨J, hJ⟩ : ∃ J : Nat, ky = J := ⟨ky.toNat, by have := hky.1; omega⟩
  subst hJ
  obtain ⟨y, hy, uy, b, o, e0, cy⟩ := HS.out.2.2.2.get (k := J) (by simp only; have := htl.out; omega)
  dsimp only at hy e0 cy
  subst e0
  have hji : (J : Int) < tn := by have := htl.out; omega
  have hy2 := hr8 y (List.mem_of_getElem? hy)
  have hwy : IntKind.u64.wrap y = y := by first | exact IntWalk.u64_in _ (by omega) | (simp [IntKind.wrap, IntKind.bits, IntKind.signed]; omega)
  have cyy := fun W (hW : Ext w W) => hW.cell cy
  have hbw : b < w.heap.size := World.block_lt_of_cell? w _ cy
  have hz : RowKit.Hid (ballotS m ⟨r, ks, vs, vt, cl⟩ ⟨15, (J : Int), vl⟩ = (⟨r, ks, vs, vt, cl⟩, (0, y))) := Lib.hid (by simp [ballotS, h, hy])
  have hJm : J < m := by omega
  clear hy hr8
  go_enter Tryz.func60, Tryz.ntmps60
  go_wp2_with (fail)
  go_region_held3 (fun w' => (w'.cell? ⟨w.heap.size + 1, 0, none⟩ = some (.int .u64 r) ∧ w'.cell? ⟨w.heap.size + 1, 1, none⟩ = some (.slice ka kn kc) ∧ w'.cell? ⟨w.heap.size + 1, 2, none⟩ = some (.slice va vn vc) ∧ w'.cell? ⟨w.heap.size + 1, 3, none⟩ = some (.slice (some ⟨b, o, none⟩) tn tc) ∧ w'.cell? ⟨w.heap.size + 1, 4, none⟩ = some (.bool cl) ∧ w'.cell? ⟨w.heap.size + 1 + 1, 1, none⟩ = some (.int .u64 (J : Int)) ∧ w'.cell? ⟨b, o + J, none⟩ = some (.int .i64 y)))
    (first | exact and5 (by ((show Five _ (w.heap.size + 1) r ⟨ka, kn, kc⟩ ⟨va, vn, vc⟩ ⟨some ⟨b, o, none⟩, tn, tc⟩ cl); repeat (first | ((with_reducible refine five_at ?_); (simp; done)) | with_reducible refine Five.alloc ?_ _ | with_reducible refine Five.drew ?_ | with_reducible refine Five.set ?_ (by omega) _ _))) ⟨(show Opb _ (w.heap.size + 1 + 1) 15 (J : Int) vl by repeat (first | ((with_reducible refine opb_at ?_); (simp; done)) | with_reducible refine Opb.alloc ?_ _ | with_reducible refine Opb.drew ?_)).2.1, cyy _ (by repeat (first | with_reducible exact Ext.refl _ | with_reducible refine Ext.alloc ?_ _ | with_reducible refine Ext.drew ?_))⟩ | go_keep)
    (first
      | (go_at_call 97; (with_reducible refine (tells_is _ _).mono ?_); rintro e w1 ⟨rfl, rfl⟩))
  rename_i hq
  clear hq
  go_wp2_with (fail)
  refine bodyPost_ret (v := .tuple #[sv r ⟨ka, kn, kc⟩ ⟨va, vn, vc⟩ ⟨some ⟨b, o, none⟩, tn, tc⟩ cl, rv 0 (y)]) (by simp [results, Tryz.results60, go_sem]) rfl ?_
  rw [hz.out]
  refine ⟨?_, _, _, _, rfl, ⟨hr, HS.out.2.1.ext ?_, HS.out.2.2.1.ext ?_, HS.out.2.2.2.ext ?_⟩, fun _ _ h => h⟩ <;> repeat (first | with_reducible exact Ext.refl _ | with_reducible refine Ext.alloc ?_ _ | with_reducible refine Ext.drew ?_)

set_option maxHeartbeats 4000000 in
set_option maxRecDepth 100000 in
theorem ba12 (k p : Int) (m : Nat) (a v t : Sl) (s : St) (ky vl : Int) (w : World) (hS : SS w a v t s) (ho : Wc ⟨12, ky, vl⟩) (hm : s.votes.length = m) (hl : m ≤ 256) :
    Calls Tryz.prog 60 #[cf k p m, sv s.reg a v t s.closed, ov ⟨12, ky, vl⟩] w (DE a v t (ballotS m s ⟨12, ky, vl⟩) w) := by
  obtain ⟨ka, kn, kc⟩ := a
  obtain ⟨va, vn, vc⟩ := v
  obtain ⟨ta, tn, tc⟩ := t
  obtain ⟨r, ks, vs, vt, cl⟩ := s
  have hr := hS.1
  have HS := Lib.hid hS
  have htl : RowKit.Hid (tn = m) := Lib.hid (by rw [← hm]; exact hS.2.2.2.len.symm)
  obtain ⟨res, hres⟩ : ∃ res, castS m ⟨r, ks, vs, vt, cl⟩ ⟨12, ky, vl⟩ = res := ⟨_, rfl⟩
  have hz : RowKit.Hid (ballotS m ⟨r, ks, vs, vt, cl⟩ ⟨12, ky, vl⟩ = res) := Lib.hid (by rw [← hres]; rfl)
  have hCa : ∀ W, Ext w W → Calls Tryz.prog 104 #[cf k p m, sv r ⟨ka, kn, kc⟩ ⟨va, vn, vc⟩ ⟨ta, tn, tc⟩ cl, ov ⟨12, ky, vl⟩] W (DE ⟨ka, kn, kc⟩ ⟨va, vn, vc⟩ ⟨ta, tn, tc⟩ res W) := fun W hW => hres ▸ cast_any k p m ⟨ka, kn, kc⟩ ⟨va, vn, vc⟩ ⟨ta, tn, tc⟩ ⟨r, ks, vs, vt, cl⟩ ⟨12, ky, vl⟩ W (hS.ext hW) ho hm hl
  clear hres
  obtain ⟨_, hky, hvl⟩ := ho
  clear hS hm
  dsimp only [sv, ov] at *
  have hwm : IntKind.u64.wrap (m : Int) = m := by first | exact IntWalk.u64_in _ (by omega) | (simp [IntKind.wrap, IntKind.bits, IntKind.signed]; omega)
  go_enter Tryz.func60, Tryz.ntmps60
  go_wp2_with (fail)
  refine (hCa _ (by repeat (first | with_reducible exact Ext.refl _ | with_reducible refine Ext.alloc ?_ _ | with_reducible refine Ext.drew ?_))).mono ?_
  rintro e w1 ⟨hE1, k', v', t', rfl, hS1, hOf⟩
  have F30 : Five w1 (w.heap.size + 1 + 1 + 1) 0 nilSl nilSl nilSl false := Five.ext (by ((show Five _ (w.heap.size + 1 + 1 + 1) 0 ⟨none, 0, 0⟩ ⟨none, 0, 0⟩ ⟨none, 0, 0⟩ false); repeat (first | ((with_reducible refine five_at ?_); (simp; done)) | with_reducible refine Five.alloc ?_ _))) hE1
  have T40 : Two w1 (w.heap.size + 1 + 1 + 1 + 1) 0 0 := two_ext hE1 (by repeat (first | ((with_reducible refine two_at ?_); (simp; done)) | with_reducible refine two_alloc ?_ _))
  obtain ⟨l1, l2⟩ := lay hE1
  have hO3 := hOf (w.heap.size + 1 + 1 + 1) (by simp only [World.size_alloc]; omega) (HS.out.off (by omega))
  have hO4 := hOf (w.heap.size + 1 + 1 + 1 + 1) (by simp only [World.size_alloc]; omega) (HS.out.off (by omega))
  have HE1 : RowKit.Hid (Ext w w1) := Lib.hid (Ext.trans (by repeat (first | with_reducible exact Ext.refl _ | with_reducible refine Ext.alloc ?_ _ | with_reducible refine Ext.drew ?_)) hE1)
  have HS1 := Lib.hid hS1
  have HO := Lib.hid hOf
  simp only [World.size_alloc] at l1 l2
  clear hS1 hOf hCa
  go_wp2_with (fail)
  obtain ⟨⟨q0, q1, q2, q3, q4⟩, z0, z1⟩ := fin_both F30.some T40.some (by omega) res.1.reg k' v' t' res.1.closed res.2.1 res.2.2 (Ext.refl _)
  refine bodyPost_ret (v := .tuple #[sv res.1.reg k' v' t' res.1.closed, rv res.2.1 res.2.2]) (by simp [results, Tryz.results60, go_sem, q0, q1, q2, q3, q4, z0, z1]) rfl ?_
  rw [hz.out]
  refine ⟨by repeat (first | with_reducible exact HE1.out | with_reducible refine Ext.setCell ?_ (by omega) _), k', v', t', rfl, by repeat (first | with_reducible exact HS1.out | with_reducible refine SS.set ?_ hO4 _ _ | with_reducible refine SS.set ?_ hO3 _ _), fun B hB h => HO.out B (by simp only [World.size_alloc]; omega) h⟩

set_option maxHeartbeats 4000000 in
set_option maxRecDepth 100000 in
theorem babad (k p : Int) (m : Nat) (a v t : Sl) (s : St) (cd ky vl : Int) (w : World) (h12 : cd ≠ 12) (h13 : cd ≠ 13) (h14 : cd ≠ 14) (h15 : cd ≠ 15) (h16 : cd ≠ 16) (hS : SS w a v t s) (ho : Wc ⟨cd, ky, vl⟩) (hm : s.votes.length = m) (hl : m ≤ 256) :
    Calls Tryz.prog 60 #[cf k p m, sv s.reg a v t s.closed, ov ⟨cd, ky, vl⟩] w (DE a v t (ballotS m s ⟨cd, ky, vl⟩) w) := by
  obtain ⟨ka, kn, kc⟩ := a
  obtain ⟨va, vn, vc⟩ := v
  obtain ⟨ta, tn, tc⟩ := t
  obtain ⟨r, ks, vs, vt, cl⟩ := s
  have hr := hS.1
  have HS := Lib.hid hS
  have htl : RowKit.Hid (tn = m) := Lib.hid (by rw [← hm]; exact hS.2.2.2.len.symm)
  obtain ⟨_, hky, hvl⟩ := ho
  clear hS hm
  dsimp only [sv, ov] at *
  have hwm : IntKind.u64.wrap (m : Int) = m := by first | exact IntWalk.u64_in _ (by omega) | (simp [IntKind.wrap, IntKind.bits, IntKind.signed]; omega)
  have e12 : (cd == 12) = false := by simpa using h12
  have e13 : (cd == 13) = false := by simpa using h13
  have e14 : (cd == 14) = false := by simpa using h14
  have e15 : (cd == 15) = false := by simpa using h15
  have e16 : (cd == 16) = false := by simpa using h16
  have hz : RowKit.Hid (ballotS m ⟨r, ks, vs, vt, cl⟩ ⟨cd, ky, vl⟩ = (⟨r, ks, vs, vt, cl⟩, (10, 0))) := Lib.hid (by simp [ballotS, h12, h13, h14, h15, h16])
  clear h12 h13 h14 h15 h16
  go_enter Tryz.func60, Tryz.ntmps60
  go_wp2_with (fail)
  go_region_held3 (fun w' => (w'.cell? ⟨w.heap.size + 1, 0, none⟩ = some (.int .u64 r) ∧ w'.cell? ⟨w.heap.size + 1, 1, none⟩ = some (.slice ka kn kc) ∧ w'.cell? ⟨w.heap.size + 1, 2, none⟩ = some (.slice va vn vc) ∧ w'.cell? ⟨w.heap.size + 1, 3, none⟩ = some (.slice ta tn tc) ∧ w'.cell? ⟨w.heap.size + 1, 4, none⟩ = some (.bool cl)))
    (first | ((show Five _ (w.heap.size + 1) r ⟨ka, kn, kc⟩ ⟨va, vn, vc⟩ ⟨ta, tn, tc⟩ cl); repeat (first | ((with_reducible refine five_at ?_); (simp; done)) | with_reducible refine Five.alloc ?_ _ | with_reducible refine Five.drew ?_ | with_reducible refine Five.set ?_ (by omega) _ _)) | go_keep)
    (first
      | (go_at_call 100; (with_reducible refine (refuses_is _ _).mono ?_); rintro e w1 ⟨rfl, rfl⟩))
  rename_i hq
  clear hq
  go_wp2_with (fail)
  refine bodyPost_ret (v := .tuple #[sv r ⟨ka, kn, kc⟩ ⟨va, vn, vc⟩ ⟨ta, tn, tc⟩ cl, rv 10 (0)]) (by simp [results, Tryz.results60, go_sem]) rfl ?_
  rw [hz.out]
  refine ⟨?_, _, _, _, rfl, ⟨hr, HS.out.2.1.ext ?_, HS.out.2.2.1.ext ?_, HS.out.2.2.2.ext ?_⟩, fun _ _ h => h⟩ <;> repeat (first | with_reducible exact Ext.refl _ | with_reducible refine Ext.alloc ?_ _ | with_reducible refine Ext.drew ?_)

end Go.Proofs.YtmonkcekkhfafaaGreatDoor.Aut

/- AutTally:
  What the document's ballot tells of a tally, and what it does and tells of any call. Conditions: integers' bounds; the state's slices are there, as many votes as there may be, each from 0 to 8.
-/
namespace Go.Proofs.YtmonkcekkhfafaaGreatDoor.Aut
open Go.RowKit (Below intOf)
open Reg (cf bx)

theorem bit_q (b : Bool) (w : World) (m : Nat) : Calls Tryz.prog 105 #[.bool b] (w.drewN m) fun e w' => e = .returned (.int .u64 (bitZ b)) ∧ ∃ j, w' = w.drewN j :=
  (bit_any b _).mono fun _ _ h => ⟨h.1, m, h.2.symm⟩
theorem bit_q1 (w : World) (m : Nat) : Calls Tryz.prog 105 #[.bool true] (w.drewN m) fun e w' => e = .returned (.int .u64 1) ∧ ∃ j, w' = w.drewN j := bit_q true w m
theorem bit_q0 (w : World) (m : Nat) : Calls Tryz.prog 105 #[.bool false] (w.drewN m) fun e w' => e = .returned (.int .u64 0) ∧ ∃ j, w' = w.drewN j := bit_q false w m
theorem tally_up {vs : List Int} {i : Nat} {y : Int} (h : vs[i]? = some y) (x : Int) : tallyL (vs.take (i + 1)) x = tallyL (vs.take i) x + (if y = x then 1 else 0) := by
  unfold tallyL
  rw [take_snoc h, List.countP_append]
  by_cases c : y = x
  · simp [c]
  · simp [c]
theorem tally_no_more (vs : List Int) (x : Int) : tallyL vs x ≤ vs.length := by unfold tallyL; exact List.countP_le_length
theorem Opb.drewN {w : World} {b : Nat} {cd ky vl : Int} (h : Opb w b cd ky vl) (n : Nat) : Opb (w.drewN n) b cd ky vl := h.ext (Ext.draws w n)
theorem Five.drewN {w : World} {b : Nat} {r : Int} {k v t : Sl} {cl : Bool} (h : Five w b r k v t cl) (n : Nat) : Five (w.drewN n) b r k v t cl := h.ext (Ext.draws w n)

set_option maxHeartbeats 4000000 in
set_option maxRecDepth 100000 in
theorem ba14 (k p : Int) (m : Nat) (a v t : Sl) (s : St) (ky vl : Int) (w : World) (h1 : 1 ≤ ky) (h8 : ky ≤ 8) (hr8 : ∀ y ∈ s.votes, 0 ≤ y ∧ y ≤ 8) (hS : SS w a v t s) (ho : Wc ⟨14, ky, vl⟩) (hm : s.votes.length = m) (hl : m ≤ 256) :
    Calls Tryz.prog 60 #[cf k p m, sv s.reg a v t s.closed, ov ⟨14, ky, vl⟩] w (DE a v t (ballotS m s ⟨14, ky, vl⟩) w) := by
  obtain ⟨ka, kn, kc⟩ := a
  obtain ⟨va, vn, vc⟩ := v
  obtain ⟨ta, tn, tc⟩ := t
  obtain ⟨r, ks, vs, vt, cl⟩ := s
  have hr := hS.1
  have HS := Lib.hid hS
  have htl : tn = m := by rw [← hm]; exact hS.2.2.2.len.symm
  subst htl
  obtain ⟨_, hky, hvl⟩ := ho
  dsimp only at hr8 hm
  have HR8 := Lib.hid hr8
  have HM := Lib.hid hm
  clear hS hm hr8
  dsimp only [sv, ov] at *
  have b1 : decide (ky < 1) = false := decide_eq_false (by omega)
  have b2 : decide (8 < ky) = false := decide_eq_false (by omega)
  have hz : RowKit.Hid (ballotS tn ⟨r, ks, vs, vt, cl⟩ ⟨14, ky, vl⟩ = (⟨r, ks, vs, vt, cl⟩, (0, (tallyL vt ky : Int)))) := Lib.hid (by
    unfold ballotS; rw [if_neg (by simp), if_neg (by simp), if_pos rfl, if_neg (by simp only; omega)])
  go_enter Tryz.func60, Tryz.ntmps60
  go_wp2_with (fail)
  go_loopg [9, 10] tn (fun kx s9 s10 wr => ∃ q, wr = ((((((w.alloc (.cells #[.int .i64 k, .int .i64 p, .int .i64 (tn : Int)] 24)).alloc (.cells #[.int .u64 r, .slice ka kn kc, .slice va vn vc, .slice ta tn tc, .bool cl] 30)).alloc (.cells #[.int .i64 14, .int .u64 ky, .int .u64 vl] 67)).alloc (.cells #[.int .u64 0, .slice none 0 0, .slice none 0 0, .slice none 0 0, .bool false] 30)).alloc (.cells #[.int .i64 0, .int .u64 0] 63)).alloc (.cells #[.int .u64 r, .slice ka kn kc, .slice va vn vc, .slice ta tn tc, .bool cl] 30)).drewN q ∧ ∃ i : Nat, s10 = .int .i64 i ∧ i ≤ tn ∧ tn - i ≤ kx ∧ s9 = .int .u64 (tallyL (vt.take i) ky : Nat))
  case atStart => exact ⟨0, rfl, 0, rfl, Nat.zero_le _, by omega, by simp [tallyL]⟩
  case round =>
    obtain ⟨q, hwr, i, rfl, hi, hg, rfl⟩ := hrel
    by_cases hlt : i < tn
    · have hlt2 : (i : Int) < tn := by omega
      have hX : Ext w wr := by rw [hwr]; repeat (first | with_reducible exact Ext.refl _ | with_reducible refine Ext.alloc ?_ _ | with_reducible refine Ext.drewN ?_ _)
      have d3 : wr.cell? ⟨w.heap.size + 1, 3, none⟩ = some (.slice ta tn tc) := by
        rw [hwr]
        exact (show Five _ (w.heap.size + 1) r ⟨ka, kn, kc⟩ ⟨va, vn, vc⟩ ⟨ta, tn, tc⟩ cl by repeat (first | ((with_reducible refine five_at ?_); (simp; done)) | with_reducible refine Five.alloc ?_ _ | with_reducible refine Five.drewN ?_ _)).2.2.2.1
      have o1 : wr.cell? ⟨w.heap.size + 1 + 1, 1, none⟩ = some (.int .u64 ky) := by
        rw [hwr]
        exact (show Opb _ (w.heap.size + 1 + 1) 14 ky vl by repeat (first | ((with_reducible refine opb_at ?_); (simp; done)) | with_reducible refine Opb.alloc ?_ _ | with_reducible refine Opb.drewN ?_ _)).2.1
      replace hwr := Lib.hid hwr
      obtain ⟨y, hy, hyu, b, o, e0, cy⟩ := HS.out.2.2.2.get (k := i) hlt
      dsimp only at e0 hy cy
      subst e0
      replace cy := hX.cell cy
      clear hX
      have hy8 := HR8.out y (List.mem_of_getElem? hy)
      have hwy : IntKind.u64.wrap y = y := by first | exact IntWalk.u64_in _ (by omega) | (simp [IntKind.wrap, IntKind.bits, IntKind.signed]; omega)
      have ht := Lib.hid (tally_up hy ky)
      have hle : tallyL (vt.take i) ky ≤ i := Nat.le_trans (tally_no_more _ _) (by rw [List.length_take]; omega)
      clear hy hyu
      generalize hq : tallyL (vt.take i) ky = qq at *
      clear hq
      by_cases he : y = ky
      · have hb : (y == ky) = true := by simpa using he
        have hw : IntKind.u64.wrap ((qq : Int) + 1) = (qq : Int) + 1 := by simp only [IntKind.wrap_u64]; omega
        rw [if_pos he] at ht
        clear he
        go_wp2_with (fail)
        go_quiet (first | (go_at_call 105; first | exact bit_q1 _ _ | exact bit_q0 _ _))
        go_wp2_with (fail)
        go_roundg (tn - (i + 1))
        case measure => omega
        case rel => exact ⟨q + nq, by rw [hwr.out]; first | rfl | exact World.drewN_drewN .., i + 1, by first | rfl | (congr 1; omega), by omega, by omega, by rw [ht.out]; first | rfl | (congr 1; simp only [bitZ, if_true, IntKind.wrap_u64]; omega)⟩
      · have hb : (y == ky) = false := by simpa using he
        have hw : IntKind.u64.wrap ((qq : Int) + 0) = (qq : Int) := by simp only [IntKind.wrap_u64]; omega
        rw [if_neg he] at ht
        clear he
        go_wp2_with (fail)
        go_quiet (first | (go_at_call 105; first | exact bit_q1 _ _ | exact bit_q0 _ _))
        go_wp2_with (fail)
        go_roundg (tn - (i + 1))
        case measure => omega
        case rel => exact ⟨q + nq, by rw [hwr.out]; first | rfl | exact World.drewN_drewN .., i + 1, by first | rfl | (congr 1; omega), by omega, by omega, by rw [ht.out]; first | rfl | (congr 1; simp only [bitZ, Bool.false_eq_true, if_false, IntKind.wrap_u64]; omega)⟩
    · subst hwr
      obtain rfl : i = tn := by omega
      have hlt2 : ¬ (i : Int) < i := by omega
      have ht : vt.take i = vt := by rw [← HM.out]; exact List.take_length
      have hq : RowKit.Hid (tallyL (vt.take i) ky = tallyL vt ky) := Lib.hid (by rw [ht])
      clear ht HR8 HM
      generalize tallyL (vt.take i) ky = qq at *
      go_wp2_with (fail)
      go_region_held3 (fun w' => (w'.cell? ⟨w.heap.size + 1, 0, none⟩ = some (.int .u64 r) ∧ w'.cell? ⟨w.heap.size + 1, 1, none⟩ = some (.slice ka kn kc) ∧ w'.cell? ⟨w.heap.size + 1, 2, none⟩ = some (.slice va vn vc) ∧ w'.cell? ⟨w.heap.size + 1, 3, none⟩ = some (.slice ta i tc) ∧ w'.cell? ⟨w.heap.size + 1, 4, none⟩ = some (.bool cl) ∧ True))
        (first | exact and5 (by ((show Five _ (w.heap.size + 1) r ⟨ka, kn, kc⟩ ⟨va, vn, vc⟩ ⟨ta, i, tc⟩ cl); repeat (first | ((with_reducible refine five_at ?_); (simp; done)) | with_reducible refine Five.alloc ?_ _ | with_reducible refine Five.drew ?_ | with_reducible refine Five.drewN ?_ _ | with_reducible refine Five.set ?_ (by omega) _ _))) trivial | go_keep)
        (first
          | (go_at_call 97; (with_reducible refine (tells_is _ _).mono ?_); rintro e w1 ⟨rfl, rfl⟩))
      rename_i hqq
      clear hqq
      go_wp2_with (fail)
      refine bodyPost_ret (v := .tuple #[sv r ⟨ka, kn, kc⟩ ⟨va, vn, vc⟩ ⟨ta, i, tc⟩ cl, rv 0 (qq : Int)]) (by simp [results, Tryz.results60, go_sem]) rfl ?_
      rw [hz.out, ← hq.out]
      refine ⟨?_, _, _, _, rfl, ⟨hr, HS.out.2.1.ext ?_, HS.out.2.2.1.ext ?_, HS.out.2.2.2.ext ?_⟩, fun _ _ h => h⟩ <;> repeat (first | with_reducible exact Ext.refl _ | with_reducible refine Ext.alloc ?_ _ | with_reducible refine Ext.drew ?_ | with_reducible refine Ext.drewN ?_ _ | with_reducible refine Ext.setCell ?_ (by omega) _)

theorem ballot_any (k p : Int) (m : Nat) (a v t : Sl) (s : St) (o : Cl) (w : World) (hS : SS w a v t s) (ho : Wc o) (hV : VotesOk m s) (hl : m ≤ 256) :
    Calls Tryz.prog 60 #[cf k p m, sv s.reg a v t s.closed, ov o] w (DE a v t (ballotS m s o) w) := by
  obtain ⟨cd, ky, vl⟩ := o
  have hm : s.votes.length = m := by have := hV.1; omega
  by_cases h12 : cd = 12
  · subst h12; exact ba12 k p m a v t s ky vl w hS ho hm hl
  by_cases h13 : cd = 13
  · subst h13; exact ba13 k p m a v t s ky vl w hS ho hm hl
  by_cases h14 : cd = 14
  · subst h14
    by_cases h1 : ky < 1
    · exact ba14l k p m a v t s ky vl w h1 hS ho hm hl
    · by_cases h8 : 8 < ky
      · exact ba14h k p m a v t s ky vl w h8 hS ho hm hl
      · exact ba14 k p m a v t s ky vl w (by omega) (by omega) hV.2 hS ho hm hl
  by_cases h15 : cd = 15
  · subst h15
    by_cases h1 : (m : Int) ≤ ky
    · exact ba15n k p m a v t s ky vl w h1 hS ho hm hl
    · exact ba15y k p m a v t s ky vl w h1 hV.2 hS ho hm hl
  by_cases h16 : cd = 16
  · subst h16; exact ba16 k p m a v t s ky vl w hS ho hm hl
  exact babad k p m a v t s cd ky vl w h12 h13 h14 h15 h16 hS ho hm hl

end Go.Proofs.YtmonkcekkhfafaaGreatDoor.Aut

