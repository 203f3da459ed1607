/-
  What hang does: it writes the links of the keys' tree into a room of pairs, and returns its top. Conditions: the keys are there, and lay ahead of the room; the package's table lies.
-/
import Derived.Test.YtnmeakkehonnmaaDoorTrpFirst
namespace Go.Proofs.YtnmeakkehonnmaaDoor.Trp
open Go.RowKit (Below intOf)

/-- Room for n pairs, from o on in block b, that may be written. -/
def Room (w : World) (b o n : Nat) : Prop := ∀ j, j < n * 2 → (∃ v, w.cell? ⟨b, o + j, none⟩ = some v) ∧ w.frozen? ⟨b, o + j, none⟩ = false
/-- The slice of that room. -/
def RoomAt (sl : Option Addr) (n cl b o : Nat) : Prop := (0 < n → sl = some ⟨b, o, none⟩) ∧ n ≤ cl ∧ cl ≤ 9223372036854775807
/-- The pairs were written there, nothing else of what lay. -/
def Hung (w w' : World) (b o n : Nat) (L : List Pr) : Prop :=
  w.grownBy w' (some b) ∧ (∀ (j : Nat) (x : Pr), L[j]? = some x → w'.cell? ⟨b, o + j * 2, none⟩ = some (.int .i64 x.1) ∧ w'.cell? ⟨b, o + j * 2 + 1, none⟩ = some (.int .i64 x.2)) ∧
  (∀ i, (i < o ∨ o + n * 2 ≤ i) → w'.cell? ⟨b, i, none⟩ = w.cell? ⟨b, i, none⟩) ∧ ∀ i, w'.frozen? ⟨b, i, none⟩ = w.frozen? ⟨b, i, none⟩

theorem RoomAt.take {sl : Option Addr} {n cl b o t : Nat} (h : RoomAt sl n cl b o) (ht : t < n) : RoomAt sl t cl b o := ⟨fun _ => h.1 (by omega), by have := h.2.1; omega, h.2.2⟩
theorem RoomAt.drop {sl : Option Addr} {n cl b o t : Nat} (h : RoomAt sl n cl b o) (ht : t < n) : RoomAt (cutAt 2 sl cl (t + 1)) (n - (t + 1)) (cl - (t + 1)) b (o + (t + 1) * 2) :=
  ⟨fun h1 => by unfold cutAt; rw [if_neg (by have := h.2.1; omega), h.1 (by omega), Option.map_some, add_is], by have := h.2.1; omega, by have := h.2.2; omega⟩
theorem grown_of_ext {w w' : World} (b : Nat) (h : Ext w w') : w.grownBy w' (some b) := ⟨h.os, h.tape, h.output, h.size, fun k hk _ => h.block k hk⟩
theorem grown_then {w W W' : World} {b : Nat} (h : w.grownBy W (some b)) (h2 : W.grownBy W' (some b)) : w.grownBy W' (some b) :=
  ⟨h2.os.trans h.os, h2.tape.trans h.tape, h2.output.trans h.output, Nat.le_trans h.size h2.size, fun k hk hne => by
    rw [h2.block k (Nat.lt_of_lt_of_le hk h.size) hne, h.block k hk hne]⟩
theorem grown_set (w : World) (b i : Nat) (v : Value) : w.grownBy (w.setCell ⟨b, i, none⟩ v) (some b) := by
  refine ⟨rfl, rfl, rfl, by simp [World.setCell], fun k hk hne => ?_⟩
  have : b ≠ k := fun e => hne (by rw [e])
  simp [World.setCell, Array.getElem?_modify, this]
theorem Room.ext {w w' : World} {b o n : Nat} (h : Room w b o n) (e : Ext w w') : Room w' b o n := fun j hj => by
  obtain ⟨⟨v, h1⟩, h2⟩ := h j hj
  exact ⟨⟨v, e.cell h1⟩, by rw [e.frozen h1]; exact h2⟩
theorem Room.take {w : World} {b o n t : Nat} (h : Room w b o n) (ht : t ≤ n) : Room w b o t := fun j hj => h j (by omega)
theorem Room.drop {w : World} {b o n t : Nat} (h : Room w b o n) : Room w b (o + t * 2) (n - t) := fun j hj => by
  have := h (t * 2 + j) (by omega)
  rwa [← Nat.add_assoc] at this
theorem Room.hung {w w' : World} {b o n o' n' : Nat} {L : List Pr} (h : Room w b o n) (g : Hung w w' b o' n' L) (hL : L.length = n') : Room w' b o n := fun j hj => by
  obtain ⟨⟨v, h1⟩, h2⟩ := h j hj
  refine ⟨?_, by rw [g.2.2.2]; exact h2⟩
  by_cases hc : o + j < o' ∨ o' + n' * 2 ≤ o + j
  · exact ⟨v, by rw [g.2.2.1 _ hc]; exact h1⟩
  · obtain ⟨k, hk⟩ : ∃ k, o + j = o' + k * 2 ∨ o + j = o' + k * 2 + 1 := ⟨(o + j - o') / 2, by omega⟩
    have hkl : k < L.length := by omega
    have := g.2.1 k _ (List.getElem?_eq_getElem hkl)
    rcases hk with e | e
    · rw [e]; exact ⟨_, this.1⟩
    · rw [e]; exact ⟨_, this.2⟩
theorem Room.set {w : World} {b o n i : Nat} {v : Value} (h : Room w b o n) : Room (w.setCell ⟨b, i, none⟩ v) b o n := fun j hj => by
  obtain ⟨⟨u, h1⟩, h2⟩ := h j hj
  refine ⟨?_, by simpa using h2⟩
  by_cases e : o + j = i
  · subst e; exact ⟨v, World.cell?_setCell_same' _ _ _ (by rw [h1]; rfl)⟩
  · exact ⟨u, by rw [World.cell?_setCell_other _ _ _ _ (fun he => e (by cases he; rfl))]; exact h1⟩
theorem set_far {w : World} {b i k : Nat} {v : Value} (h : i ≠ k) : (w.setCell ⟨b, k, none⟩ v).cell? ⟨b, i, none⟩ = w.cell? ⟨b, i, none⟩ := World.cell?_setCell_other _ _ _ _ (fun he => h (by cases he; rfl))

theorem Room.get {w : World} {b o n : Nat} (h : Room w b o n) (j : Nat) (hj : j < n * 2) : ∃ v, w.cell? ⟨b, o + j, none⟩ = some v ∧ w.frozen? ⟨b, o + j, none⟩ = false := by
  obtain ⟨⟨v, h1⟩, h2⟩ := h j hj
  exact ⟨v, h1, h2⟩
/-- Two trees hung, and what is between them. -/
theorem hung_both {w w1 w2 w3 : World} {b o n t : Nat} {L M : List Pr} {a c : Int} (hR : Room w b o n) (ht : t < n) (hL : L.length = t) (hM : M.length = n - (t + 1)) (hE : Ext w w1)
    (h1 : Hung w1 w2 b o t L) (h2 : Hung (w2.setCell ⟨b, o + t * 2, none⟩ (.int .i64 a)) w3 b (o + (t + 1) * 2) (n - (t + 1)) M) :
    Hung w (w3.setCell ⟨b, o + t * 2 + 1, none⟩ (.int .i64 c)) b o n (L ++ (a, c) :: M) := by
  have R1 := (hR.ext hE).hung h1 hL
  have R2 : Room (w2.setCell ⟨b, o + t * 2, none⟩ (.int .i64 a)) b o n := R1.set
  have R3 := R2.hung h2 hM
  obtain ⟨g1, a1, b1, c1⟩ := h1
  obtain ⟨g2, a2, b2, c2⟩ := h2
  obtain ⟨⟨v1, hv1⟩, _⟩ := R1 (t * 2) (by omega)
  obtain ⟨⟨v3, hv3⟩, _⟩ := R3 (t * 2 + 1) (by omega)
  have hb : ∀ i, w1.cell? ⟨b, i, none⟩ = w.cell? ⟨b, i, none⟩ ∧ w1.frozen? ⟨b, i, none⟩ = w.frozen? ⟨b, i, none⟩ := fun i => by
    obtain ⟨⟨v, hv⟩, _⟩ := hR 0 (by omega)
    have hl := World.block_lt_of_cell? w _ hv
    exact ⟨Below.cell (p := ⟨b, i, none⟩) hE hl, Below.frozen (p := ⟨b, i, none⟩) hE hl⟩
  refine ⟨grown_then (grown_then (grown_then (grown_then (grown_of_ext b hE) g1) (grown_set _ _ _ _)) g2) (grown_set _ _ _ _), fun j x hx => ?_, fun i hi => ?_, fun i => ?_⟩
  · rcases Nat.lt_trichotomy j t with hj | hj | hj
    · rw [List.getElem?_append_left (by omega)] at hx
      have := a1 j x hx
      rw [set_far (by omega), set_far (by omega), b2 _ (by omega), b2 _ (by omega), set_far (by omega), set_far (by omega)]
      exact this
    · subst hj
      rw [List.getElem?_append_right (by omega), show j - L.length = 0 by omega] at hx
      simp at hx; subst hx
      rw [set_far (by omega), b2 _ (by omega)]
      refine ⟨World.cell?_setCell_same' _ _ _ (by rw [hv1]; rfl), ?_⟩
      have e : o + (j * 2 + 1) = o + j * 2 + 1 := by omega
      rw [e] at hv3
      exact World.cell?_setCell_same' _ _ _ (by rw [hv3]; rfl)
    · rw [List.getElem?_append_right (by omega), show j - L.length = (j - (t + 1)) + 1 by omega, List.getElem?_cons_succ] at hx
      have := a2 _ x hx
      rw [show o + (t + 1) * 2 + (j - (t + 1)) * 2 = o + j * 2 by omega] at this
      rw [set_far (by omega), set_far (by omega)]
      exact this
  · rw [set_far (by omega), b2 _ (by omega), set_far (by omega), b1 _ (by omega), (hb i).1]
  · rw [World.frozen?_setCell, c2, World.frozen?_setCell, c1, (hb i).2]

set_option maxHeartbeats 4000000 in
set_option maxRecDepth 100000 in
theorem hang_any (w0 : World) (b : Nat) (hT0 : Tab w0) (hb : w0.heap.size ≤ b) : ∀ (n : Nat) (s : Option Addr) (c : Nat) (l : List Int) (sl : Option Addr) (cl o A : Nat) (w : World), WS w0 s n c l → Ext w0 w → RoomAt sl n cl b o → Room w b o n → A + n ≤ 256 →
    Calls Tryd.prog 27 #[.slice s n c, .slice sl n cl, .int .i64 A] w fun e w' => e = .returned (.int .i64 (tree l A).1) ∧ Hung w w' b o n (tree l A).2 := by
  intro n
  induction n using Nat.strongRecOn with
  | ind n ih =>
    intro s c l sl cl o A w hW hE hS hR hA
    have HW := Lib.hid hW
    have HE := Lib.hid hE
    have HS := Lib.hid hS
    have HR := Lib.hid hR
    have HT := Lib.hid hT0
    clear hW hE hS hR hT0
    by_cases h0 : n = 0
    · subst h0
      have hl : RowKit.Hid (l = []) := Lib.hid (List.eq_nil_of_length_eq_zero HW.out.len)
      go_enter Tryd.func27, Tryd.ntmps27
      go_wp2
      go_ret
      rw [hl.out, tree_nil]
      exact ⟨rfl, ⟨rfl, rfl, rfl, Nat.le_refl _, fun _ _ _ => rfl⟩, fun j x h => by simp at h, fun _ _ => rfl, fun _ => rfl⟩
    · have hn0 : 0 < n := by omega
      have hne : decide (n = 0) = false := decide_eq_false h0
      have hnb : ((n : Int) == 0) = false := by simp; omega
      have hF := first_any s n c l w (tab_ext HT.out HE.out) (HW.out.ext HE.out) hn0
      obtain rfl := HS.out.1 hn0
      have hcl1 := HS.out.2.1
      have hcl2 := HS.out.2.2
      have hc1 := HW.out.lc
      have hc2 := HW.out.cle
      go_enter Tryd.func27, Tryd.ntmps27
      go_wp2_with (fail)
      refine hF.mono ?_
      rintro e w1 ⟨⟨t, rfl, hP⟩, hE1⟩
      have HP := Lib.hid hP
      have HE1 := Lib.hid hE1
      have ht : t < n := by rw [← HW.out.len]; exact hP.lt
      have hti : (t : Int) < n := by omega
      clear hP hE1 hF h0
      have hA' : (0 : Int) ≤ A := by omega
      have hq1 := slice_hiWS s n c t (by omega)
      have hq2 := slice_hiLS (some ⟨b, o, none⟩) n cl t (by omega)
      have hq3 : ∀ w : World, (Instr.sliceAt 22 (.slice s n c) (some (.int .i64 ((t : Int) + 1))) none none).run Tryd.prog w = .ok (.slice (cutAt 1 s c (t + 1)) (n - (t + 1)) (c - (t + 1))) w := slice_loWS s n c (t + 1) (by omega)
      have hq4 : ∀ w : World, (Instr.sliceAt 24 (.slice (some ⟨b, o, none⟩) n cl) (some (.int .i64 ((t : Int) + 1))) none none).run Tryd.prog w = .ok (.slice (cutAt 2 (some ⟨b, o, none⟩) cl (t + 1)) (n - (t + 1)) (cl - (t + 1))) w := slice_loLS (some ⟨b, o, none⟩) n cl (t + 1) (by omega)
      have HI1 : RowKit.Hid (Calls Tryd.prog 27 #[.slice s t c, .slice (some ⟨b, o, none⟩) t cl, .int .i64 A] w1.drew fun e w' => e = .returned (.int .i64 (tree (l.take t) A).1) ∧ Hung w1.drew w' b o t (tree (l.take t) A).2) :=
        Lib.hid (ih t ht s c (l.take t) (some ⟨b, o, none⟩) cl o A w1.drew (HW.out.take (by omega)) ((HE.out.trans HE1.out).drew) (HS.out.take ht) ((HR.out.ext HE1.out.drew).take (by omega)) (by omega))
      have HI2 : RowKit.Hid (∀ w2, Ext w0 w2 → Room w2 b o n → Calls Tryd.prog 27 #[.slice (cutAt 1 s c (t + 1)) (n - (t + 1)) (c - (t + 1)), .slice (cutAt 2 (some ⟨b, o, none⟩) cl (t + 1)) (n - (t + 1)) (cl - (t + 1)), .int .i64 ((A : Int) + t + 1)] w2 fun e w' => e = .returned (.int .i64 (tree (l.drop (t + 1)) (A + t + 1)).1) ∧ Hung w2 w' b (o + (t + 1) * 2) (n - (t + 1)) (tree (l.drop (t + 1)) (A + t + 1)).2) :=
        Lib.hid (fun w2 h1 h2 => ih (n - (t + 1)) (by omega) _ _ (l.drop (t + 1)) _ _ (o + (t + 1) * 2) (A + t + 1) w2 (HW.out.drop (by omega)) h1 (HS.out.drop ht) h2.drop (by omega))
      clear ih
      obtain ⟨LL, hLL⟩ : ∃ LL, RowKit.Hid (tree (l.take t) A = LL) := ⟨_, Lib.hid rfl⟩
      obtain ⟨MM, hMM⟩ : ∃ MM, RowKit.Hid (tree (l.drop (t + 1)) (A + t + 1) = MM) := ⟨_, Lib.hid rfl⟩
      rw [hLL.out] at HI1
      rw [hMM.out] at HI2
      have hlen1 : RowKit.Hid (LL.2.length = t) := Lib.hid (by rw [← hLL.out, tree_len _ _ _ rfl]; simp; have := HW.out.len; omega)
      have hlen2 : RowKit.Hid (MM.2.length = n - (t + 1)) := Lib.hid (by rw [← hMM.out, tree_len _ _ _ rfl]; simp; have := HW.out.len; omega)
      go_wp2_with (fail)
      go_region_held3 (fun _ => True) (trivial)
        ((go_at_call 27; with_reducible refine HI1.out.mono ?_; rintro e w2 ⟨rfl, hH⟩; obtain ⟨v2, hcv, hfv⟩ := Room.get (Room.hung (Room.ext HR.out (Ext.drew HE1.out)) hH hlen1.out) (t * 2) (by omega)))
      rename_i hh
      have HH := Lib.hid hH
      have HRm : RowKit.Hid (Room (w2.setCell ⟨b, o + t * 2, none⟩ (.int .i64 LL.1)) b o n) := Lib.hid (Room.set (Room.hung (Room.ext HR.out (Ext.drew HE1.out)) hH hlen1.out))
      have HEx : RowKit.Hid (Ext w0 (w2.setCell ⟨b, o + t * 2, none⟩ (.int .i64 LL.1))) := Lib.hid (Ext.grown (Ext.grown ((HE.out.trans HE1.out).drew) hH.1 (fun k e => by cases e; exact hb)) (grown_set _ _ _ _) (fun k e => by cases e; exact hb))
      obtain ⟨w3, hw3⟩ : ∃ w3, w2.setCell ⟨b, o + t * 2, none⟩ (.int .i64 LL.1) = w3 := ⟨_, rfl⟩
      rw [hw3] at HRm HEx ⊢
      have HW3 := Lib.hid hw3
      clear hw3 hh hH hcv hfv HI1 hq1 hq2
      have HI3 := Lib.hid (HI2.out w3.drew (HEx.out.drew) (Room.ext HRm.out (Ext.drew (Ext.refl w3))))
      have e1 : IntKind.i64.wrap ((t : Int) + 1) = t + 1 := IntWalk.i64_in _ (by omega)
      have e2 : IntKind.i64.wrap ((A : Int) + t) = A + t := IntWalk.i64_in _ (by omega)
      have e3 : IntKind.i64.wrap ((A : Int) + t + 1) = A + t + 1 := IntWalk.i64_in _ (by omega)
      go_wp2_with (fail)
      go_region_held3 (fun _ => True) (trivial)
        ((go_at_call 27; with_reducible refine HI3.out.mono ?_; rintro e w4 ⟨rfl, hH⟩; obtain ⟨v4, hcv, hfv⟩ := Room.get (Room.hung (Room.ext HRm.out (Ext.drew (Ext.refl w3))) hH hlen2.out) (t * 2 + 1) (by omega); rw [← Nat.add_assoc] at hcv hfv))
      rename_i hh
      clear hh hcv hfv
      go_wp2_with (fail)
      go_ret
      have HHH := hung_both (a := LL.1) (c := MM.1) HR.out ht hlen1.out hlen2.out (Ext.drew HE1.out) HH.out (by rw [HW3.out]; exact ⟨grown_then (grown_of_ext b (Ext.drew (Ext.refl w3))) hH.1, hH.2.1, hH.2.2.1, hH.2.2.2⟩)
      have et := tree_at HP.out A
      rw [hLL.out, hMM.out] at et
      rw [et]
      exact ⟨by congr 2, HHH⟩

end Go.Proofs.YtnmeakkehonnmaaDoor.Trp
