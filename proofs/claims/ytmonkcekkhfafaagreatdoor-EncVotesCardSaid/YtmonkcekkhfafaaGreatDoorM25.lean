/-
  Parts of a proof, one behind the other: EncWords, EncLay, EncPad, EncEnc. Each says its own conditions.
-/
import Derived.Test.YtmonkcekkhfafaaGreatDoorM04
import Derived.Test.YtmonkcekkhfafaaGreatDoorM08
import Derived.Test.YtmonkcekkhfafaaGreatDoorM10
import Derived.Test.YtmonkcekkhfafaaGreatDoorM19
import Derived.Test.YtmonkcekkhfafaaGreatDoorM24
import Derived.Laws.CopyOwn
import Derived.Laws.Tables
import Derived.Deep.RegionLaw

/- EncWords:
  What the landed enc's small functions return: words of ints and of words, bit, tallies. Conditions: the lists are there; ints that are laid are not below 0; votes are choices.
-/
namespace Go.Proofs.YtmonkcekkhfafaaGreatDoor.Enc
open Go.RowKit (Below intOf)
open Go.Proofs.YtmonkcekkhfafaaGreatDoor.Aut
open Go.Proofs.YtmonkcekkhfafaaGreatDoor.Reg (cf bx)

abbrev zerosW (n : Nat) : Array Value := madeCells #[.int .u64 0] n
theorem flatWS_map : ∀ l : List Int, flatWS l = l.map (Value.int .u64)
  | [] => rfl
  | x :: r => by rw [flatWS, flatWS_map r]; rfl
theorem zerosW_flat (n : Nat) : (zerosW n).toList = flatWS (List.replicate n 0) := by
  rw [toList_madeCells_one, flatWS_map, List.map_replicate]
theorem tally_le (vs : List Int) (x : Int) : tallyL vs x ≤ vs.length := by unfold tallyL; exact List.countP_le_length
theorem make_words (n : Nat) (hn : n ≤ 1048576) (W : World) : (Instr.makeSlice 27 (.int .i64 (n : Int)) (.int .i64 (n : Int))).run Tryz.prog W = .ok (.slice (some ⟨W.heap.size, 0, none⟩) n n) (W.alloc (.cells (zerosW n) 26)) := by
  obtain ⟨i0, hi, hz0, hz1, hz2⟩ := info_parts infoWS
  have h := run_make (P := Tryz.prog) W 27 26 i0 _ Tryz.underlying27 hi hz0 .i64 .i64 n n (by omega) (by omega) (by rw [hz2]; omega) (by omega)
  simp only [Int.toNat_natCast, hz1, Nat.mul_one] at h
  exact h
theorem made_own (n : Nat) (hn : n ≤ 1048576) (W : World) : (W.alloc (.cells (zerosW n) 26)).ownsRow W.heap.size 26 1 (.slice (some ⟨W.heap.size, 0, none⟩) n n) n (flatWS (List.replicate n 0)) := by
  have := World.ownsRow_lit (base := W.heap.size) (e := 26) (size := 1) W (zerosW n) n (Nat.le_refl _) (by unfold maxLen; omega) (by simp [zerosW, madeCells])
  rw [zerosW_flat] at this
  exact this
theorem own_put {w : World} {base g n c : Nat} {ys : List Int} (h : w.ownsRow base 26 1 (.slice (some ⟨g, 0, none⟩) n c) n (flatWS ys)) (j : Nat) (x : Int) : (w.setCell ⟨g, j, none⟩ (.int .u64 x)).ownsRow base 26 1 (.slice (some ⟨g, 0, none⟩) n c) n (flatWS (ys.set j x)) := by
  have := h.stored j (.int .u64 x)
  rw [flatWS_map] at this ⊢
  rw [← List.map_set] at this
  exact this.1

/-- A list of words is answered, in a row of its own. -/
def WE (xs : List Int) (w : World) (e : Ending) (w' : World) : Prop := ∃ k : Sl, e = .returned (.slice k.a k.n k.c) ∧ WS w' k.a k.n k.c xs ∧ Ext w w' ∧ ∀ B, B < w.heap.size → Off k.a B

set_option maxHeartbeats 2000000 in
set_option maxRecDepth 100000 in
theorem words_int (sl : Option Addr) (n c : Nat) (xs : List Int) (w : World) (hl : NS w sl n c xs) (h0 : ∀ x ∈ xs, 0 ≤ x) :
    Calls Tryz.prog 75 #[.slice sl n c] w (WE xs w) := by
  have hn := hl.le
  have HR := Lib.hid hl
  have H0 := Lib.hid h0
  have hmk := fun W => make_words n hn W
  have HM := Lib.hid (made_own n hn w)
  clear hl h0
  go_enter Tryz.func75, Tryz.ntmps75
  go_wp2_with (fail)
  go_loopg [11] n (fun kx s11 wr => ∃ i : Nat, s11 = .int .i64 i ∧ i ≤ n ∧ n - i ≤ kx ∧ RowKit.Hid (Ext w wr) ∧ RowKit.Hid (∃ ys : List Int, ys.length = n ∧ (∀ y ∈ ys, U64 y) ∧ (∀ j, j < i → ys[j]? = xs[j]?) ∧ wr.ownsRow w.heap.size 26 1 (.slice (some ⟨w.heap.size, 0, none⟩) n n) n (flatWS ys)))
  case atStart => exact ⟨0, rfl, Nat.zero_le _, by omega, Lib.hid (Ext.new _ _), Lib.hid ⟨List.replicate n 0, by simp, fun y hy => by rw [List.eq_of_mem_replicate hy]; unfold U64; simp, fun j hj => absurd hj (Nat.not_lt_zero _), HM.out⟩⟩
  case round =>
    obtain ⟨i, rfl, hi, hg, S1, D⟩ := hrel
    obtain ⟨ys, y1, y2, y3, h4⟩ := D.out
    by_cases hlt : i < n
    · have hlt2 : (i : Int) < n := by omega
      obtain ⟨v, hy, hyu, b, o, rfl, hyc⟩ := HR.out.get hlt
      have cm := S1.out.cell hyc
      have gc := h4.cellAt i (by omega)
      rw [flatWS_0] at gc
      have hyi : ys[i]? = some (ys[i]'(by omega)) := List.getElem?_eq_getElem (by omega)
      rw [hyi] at gc
      simp only [Option.map_some] at gc
      have gf := h4.frozenAt i
      have hv0 := H0.out v (List.mem_of_getElem? hy)
      have hw1 : IntKind.u64.wrap v = v := by have := hyu.2; simp only [IntKind.wrap_u64]; omega
      have HP := Lib.hid (own_put h4 i v)
      have HY2 := Lib.hid y2
      have HY3 := Lib.hid y3
      have HY := Lib.hid hy
      have HU : RowKit.Hid (U64 v) := Lib.hid (by have := hyu.2; unfold U64; omega)
      generalize ys[i]'(by omega) = old at *
      clear hyc hyu hy y2 y3 h4 D HM hyi hv0 H0
      go_wp2_with (fail)
      go_roundg (n - (i + 1))
      case measure => omega
      case rel =>
        refine ⟨i + 1, by first | rfl | (congr 1; omega), by omega, by omega, Lib.hid (S1.out.setCell (Nat.le_refl _) _), Lib.hid ⟨ys.set i v, by simpa using y1, fun y hy => ?_, fun j hj => ?_, HP.out⟩⟩
        · rcases List.mem_or_eq_of_mem_set hy with h | h
          · exact HY2.out y h
          · rw [h]; exact HU.out
        · by_cases ej : j = i
          · subst ej
            rw [List.getElem?_set_self (by omega), HY.out]
          · rw [List.getElem?_set_ne (Ne.symm ej)]; exact HY3.out j (by omega)
    · obtain rfl : i = n := by omega
      have hlt2 : ¬ (i : Int) < i := by omega
      have hq : ys = xs := eq_all y1 HR.out.len y3
      subst hq
      have HF := Lib.hid (WS.of_own h4 y1 hn y2)
      clear D y1 y2 y3 h4 HM HR
      go_wp2_with (fail)
      go_ret
      exact ⟨⟨some ⟨w.heap.size, 0, none⟩, i, i⟩, rfl, HF.out, S1.out, fun B hB g o e => by cases e; omega⟩

set_option maxHeartbeats 2000000 in
set_option maxRecDepth 100000 in
theorem words_u64 (sl : Option Addr) (n c : Nat) (xs : List Int) (w : World) (hl : WS w sl n c xs) :
    Calls Tryz.prog 74 #[.slice sl n c] w (WE xs w) := by
  have hn := hl.le
  have HR := Lib.hid hl
  have hmk := fun W => make_words n hn W
  have HM := Lib.hid (made_own n hn w)
  clear hl
  go_enter Tryz.func74, Tryz.ntmps74
  go_wp2_with (fail)
  go_loopg [11] n (fun kx s11 wr => ∃ i : Nat, s11 = .int .i64 i ∧ i ≤ n ∧ n - i ≤ kx ∧ RowKit.Hid (Ext w wr) ∧ RowKit.Hid (∃ ys : List Int, ys.length = n ∧ (∀ y ∈ ys, U64 y) ∧ (∀ j, j < i → ys[j]? = xs[j]?) ∧ wr.ownsRow w.heap.size 26 1 (.slice (some ⟨w.heap.size, 0, none⟩) n n) n (flatWS ys)))
  case atStart => exact ⟨0, rfl, Nat.zero_le _, by omega, Lib.hid (Ext.new _ _), Lib.hid ⟨List.replicate n 0, by simp, fun y hy => by rw [List.eq_of_mem_replicate hy]; unfold U64; simp, fun j hj => absurd hj (Nat.not_lt_zero _), HM.out⟩⟩
  case round =>
    obtain ⟨i, rfl, hi, hg, S1, D⟩ := hrel
    obtain ⟨ys, y1, y2, y3, h4⟩ := D.out
    by_cases hlt : i < n
    · have hlt2 : (i : Int) < n := by omega
      obtain ⟨v, hy, hyu, b, o, rfl, hyc⟩ := HR.out.get hlt
      have cm := S1.out.cell hyc
      have gc := h4.cellAt i (by omega)
      rw [flatWS_0] at gc
      have hyi : ys[i]? = some (ys[i]'(by omega)) := List.getElem?_eq_getElem (by omega)
      rw [hyi] at gc
      simp only [Option.map_some] at gc
      have gf := h4.frozenAt i
      have hw1 : IntKind.u64.wrap v = v := by have h1 := hyu.1; have h2 := hyu.2; simp only [IntKind.wrap_u64]; omega
      have HP := Lib.hid (own_put h4 i v)
      have HY2 := Lib.hid y2
      have HY3 := Lib.hid y3
      have HY := Lib.hid hy
      have HU := Lib.hid hyu
      generalize ys[i]'(by omega) = old at *
      clear hyc hyu hy y2 y3 h4 D HM hyi
      go_wp2_with (fail)
      go_roundg (n - (i + 1))
      case measure => omega
      case rel =>
        refine ⟨i + 1, by first | rfl | (congr 1; omega), by omega, by omega, Lib.hid (S1.out.setCell (Nat.le_refl _) _), Lib.hid ⟨ys.set i v, by simpa using y1, fun y hy => ?_, fun j hj => ?_, HP.out⟩⟩
        · rcases List.mem_or_eq_of_mem_set hy with h | h
          · exact HY2.out y h
          · rw [h]; exact HU.out
        · by_cases ej : j = i
          · subst ej
            rw [List.getElem?_set_self (by omega), HY.out]
          · rw [List.getElem?_set_ne (Ne.symm ej)]; exact HY3.out j (by omega)
    · obtain rfl : i = n := by omega
      have hlt2 : ¬ (i : Int) < i := by omega
      have hq : ys = xs := eq_all y1 HR.out.len y3
      subst hq
      have HF := Lib.hid (WS.of_own h4 y1 hn y2)
      clear D y1 y2 y3 h4 HM HR
      go_wp2_with (fail)
      go_ret
      exact ⟨⟨some ⟨w.heap.size, 0, none⟩, i, i⟩, rfl, HF.out, S1.out, fun B hB g o e => by cases e; omega⟩

theorem ebit_any (b : Bool) (w : World) : Calls Tryz.prog 78 #[.bool b] w fun e w' => e = .returned (.int .i64 (bitZ b)) ∧ w = w' := by
  cases b
  · go_enter Tryz.func78, Tryz.ntmps78
    go_wp2
    go_ret
    exact ⟨rfl, rfl⟩
  · go_enter Tryz.func78, Tryz.ntmps78
    go_wp2
    go_ret
    exact ⟨rfl, rfl⟩

/-! tallies. -/
theorem tally_snoc : ∀ (l : List Int) (y k : Int), tallyL (l ++ [y]) k = tallyL l k + if y = k then 1 else 0 := by
  intro l y k
  unfold tallyL
  rw [List.countP_append]
  by_cases h : y = k <;> simp [h]
/-- How often each of 0 to 8 has come up. -/
def counts (l : List Int) : List Int := (List.range 9).map fun k : Nat => ((tallyL l (k : Int) : Nat) : Int)
theorem counts_get (l : List Int) {k : Nat} (h : k < 9) : (counts l)[k]? = some ((tallyL l (k : Int) : Nat) : Int) := by
  unfold counts; rw [List.getElem?_map, List.getElem?_range h]; rfl
theorem counts_len (l : List Int) : (counts l).length = 9 := by unfold counts; simp
theorem counts_snoc {l : List Int} {q : Nat} (h : q < 9) : counts (l ++ [(q : Int)]) = (counts l).set q ((tallyL l (q : Int) : Nat) + 1) := by
  apply List.ext_getElem?
  intro j
  by_cases hj : j < 9
  · rw [counts_get _ hj]
    by_cases e : q = j
    · subst e
      rw [List.getElem?_set_self (by rw [counts_len]; exact h), tally_snoc, if_pos rfl]; simp
    · rw [List.getElem?_set_ne e, counts_get _ hj, tally_snoc, if_neg (by omega)]; simp
  · rw [List.getElem?_eq_none (by rw [counts_len]; omega), List.getElem?_eq_none (by rw [List.length_set, counts_len]; omega)]

set_option maxHeartbeats 2000000 in
set_option maxRecDepth 100000 in
theorem tallies_any (sl : Option Addr) (n c : Nat) (xs : List Int) (w : World) (hl : NS w sl n c xs) (h8 : ∀ x ∈ xs, 0 ≤ x ∧ x ≤ 8) :
    Calls Tryz.prog 79 #[.slice sl n c] w fun e w' => ∃ k : Sl, e = .returned (.slice k.a k.n k.c) ∧ NS w' k.a k.n k.c ((counts xs).drop 1) ∧ Ext w w' := by
  have hn := hl.le
  have HR := Lib.hid hl
  have H8 := Lib.hid h8
  clear hl h8
  go_enter Tryz.func79, Tryz.ntmps79
  go_wp2_with (fail)
  go_loopg [8] n (fun kx s8 wr => ∃ i : Nat, s8 = .int .i64 i ∧ i ≤ n ∧ n - i ≤ kx ∧ RowKit.Hid (Ext w wr) ∧ RowKit.Hid (Cb wr w.heap.size ((counts (xs.take i)).map fun x => .int .i64 x)))
  case atStart => exact ⟨0, rfl, Nat.zero_le _, by omega, Lib.hid (Ext.new _ _), Lib.hid (Cb.new w _ _)⟩
  case round =>
    obtain ⟨i, rfl, hi, hg, S1, D⟩ := hrel
    by_cases hlt : i < n
    · have hlt2 : (i : Int) < n := by omega
      obtain ⟨v, hy, hyu, b, o, rfl, hyc⟩ := HR.out.get hlt
      have cm := S1.out.cell hyc
      have hv := H8.out v (List.mem_of_getElem? hy)
      obtain ⟨q, rfl⟩ : ∃ q : Nat, v = q := ⟨v.toNat, by omega⟩
      have hq9 : q < 9 := by omega
      have hq2 : (q : Int) < 9 := by omega
      have ht : tallyL (xs.take i) (q : Int) ≤ n := by
        have h1 := tally_le (xs.take i) (q : Int)
        rw [List.length_take] at h1; omega
      have gc := D.out.c q (.int .i64 ((tallyL (xs.take i) (q : Int) : Nat) : Int)) (by rw [List.getElem?_map, counts_get _ hq9]; rfl)
      have gf := D.out.f q
      have hw1 : IntKind.i64.wrap (((tallyL (xs.take i) (q : Int) : Nat) : Int) + 1) = ((tallyL (xs.take i) (q : Int) : Nat) : Int) + 1 := by simp only [IntKind.wrap_i64]; omega
      have HD := Lib.hid (D.out.upd (i := q) (by rw [List.length_map, counts_len]; exact hq9) (.int .i64 (((tallyL (xs.take i) (q : Int) : Nat) : Int) + 1)))
      have HY := Lib.hid hy
      have HQ := Lib.hid hq9
      have hsn : counts (xs.take (i + 1)) = (counts (xs.take i)).set q ((tallyL (xs.take i) (q : Int) : Nat) + 1) := by rw [take_snoc hy, counts_snoc hq9]
      have Hsn := Lib.hid hsn
      generalize tallyL (xs.take i) (q : Int) = T at *
      clear hy hyu hyc hv hsn D H8 ht
      go_wp2_with (fail)
      go_roundg (n - (i + 1))
      case measure => omega
      case rel => exact ⟨i + 1, by first | rfl | (congr 1; omega), by omega, by omega, Lib.hid (S1.out.setCell (Nat.le_refl _) _), Lib.hid (by rw [Hsn.out, List.map_set]; exact HD.out)⟩
    · obtain rfl : i = n := by omega
      have hlt2 : ¬ (i : Int) < i := by omega
      have ht : xs.take i = xs := by rw [← HR.out.len]; exact List.take_length
      have hD := D.out
      rw [ht] at hD
      have hl9 : ∀ x ∈ counts xs, 0 ≤ x ∧ x ≤ (i : Int) := fun x hx => by
        obtain ⟨k, hk, rfl⟩ := List.mem_map.1 hx
        have h1 := tally_le xs (k : Int)
        rw [HR.out.len] at h1
        omega
      have hF : NS wr (some ⟨w.heap.size, 1, none⟩) 8 8 ((counts xs).drop 1) := by
        refine ⟨by rw [List.length_drop, counts_len], by omega, by omega, by omega, fun j x hx => ?_⟩
        rw [List.getElem?_drop] at hx
        have hu := hl9 x (List.mem_of_getElem? hx)
        refine ⟨by unfold I64; omega, w.heap.size, 1, rfl, hD.c (1 + j) _ (by rw [List.getElem?_map, hx]; rfl)⟩
      have HF := Lib.hid hF
      clear hF hD D H8 HR ht hl9
      go_wp2_with (fail)
      go_ret
      exact ⟨⟨some ⟨w.heap.size, 1, none⟩, 8, 8⟩, rfl, HF.out, S1.out⟩

end Go.Proofs.YtmonkcekkhfafaaGreatDoor.Enc

/- EncLay:
  The landed Enc's closure, which lays a list behind those that lie there: what it leaves in memory, and what stays. Conditions: the words are there, there is room for the list, and it has at least one word.
-/
namespace Go.Proofs.YtmonkcekkhfafaaGreatDoor.Enc
open Go.RowKit (Below intOf)
open Go.Proofs.YtmonkcekkhfafaaGreatDoor.Aut
open Go.Proofs.YtmonkcekkhfafaaGreatDoor.Reg (cf bx)

/-- But for blocks A and A + 1 nothing that lay has turned. -/
structure Kp (A : Nat) (w w' : World) : Prop where
  os : w'.os = w.os
  tape : w'.tape = w.tape
  output : w'.output = w.output
  size : w.heap.size ≤ w'.heap.size
  block : ∀ b, b < w.heap.size → b ≠ A → b ≠ A + 1 → w'.heap[b]? = w.heap[b]?
theorem Kp.refl (A : Nat) (w : World) : Kp A w w := ⟨rfl, rfl, rfl, Nat.le_refl _, fun _ _ _ _ => rfl⟩
theorem Kp.trans {A : Nat} {a b c : World} (h : Kp A a b) (k : Kp A b c) : Kp A a c :=
  ⟨k.os.trans h.os, k.tape.trans h.tape, k.output.trans h.output, Nat.le_trans h.size k.size, fun i hi h1 h2 => (k.block i (Nat.lt_of_lt_of_le hi h.size) h1 h2).trans (h.block i hi h1 h2)⟩
theorem Kp.of_ext {A : Nat} {w w' : World} (h : Ext w w') : Kp A w w' := ⟨h.os, h.tape, h.output, h.size, fun i hi _ _ => h.block i hi⟩
theorem Kp.drew {A : Nat} {a w : World} (h : Kp A a w) : Kp A a w.drew := ⟨h.os, h.tape, h.output, h.size, h.block⟩
theorem Kp.cell {A : Nat} {w w' : World} (h : Kp A w w') {b o : Nat} {v : Value} (hc : w.cell? ⟨b, o, none⟩ = some v) (h1 : b ≠ A) (h2 : b ≠ A + 1) : w'.cell? ⟨b, o, none⟩ = some v :=
  (World.cell?_of_block (w := w) (h.block b (World.block_lt_of_cell? w _ hc) h1 h2)).trans hc
theorem Kp.cb {A : Nat} {w w' : World} (h : Kp A w w') {b : Nat} {cs : List Value} (hc : Cb w b cs) (h1 : b ≠ A) (h2 : b ≠ A + 1) : Cb w' b cs :=
  ⟨Nat.lt_of_lt_of_le hc.lt h.size, fun i v hv => h.cell (hc.c i v hv) h1 h2, fun i => (World.frozen?_of_block (w := w) (a := ⟨b, i, none⟩) (h.block b hc.lt h1 h2)).trans (hc.f i)⟩
theorem Kp.ws {A : Nat} {w w' : World} (h : Kp A w w') {sl : Option Addr} {n c : Nat} {xs : List Int} (hc : WS w sl n c xs) (h1 : Off sl A) (h2 : Off sl (A + 1)) : WS w' sl n c xs :=
  ⟨hc.1, hc.2.1, hc.2.2.1, hc.2.2.2.1, fun j x hx => by
    obtain ⟨hu, b, o, hs, hc0⟩ := hc.2.2.2.2 j x hx
    exact ⟨hu, b, o, hs, h.cell hc0 (h1 b o hs) (h2 b o hs)⟩⟩
/-- What is laid over a list from place d on. -/
def over (L : List Int) (d : Nat) (l : List Int) : List Int := L.take d ++ (l ++ L.drop (d + l.length))
theorem over_len {L l : List Int} {d : Nat} (h : d + l.length ≤ L.length) : (over L d l).length = L.length := by unfold over; simp; omega
theorem flatWS_take : ∀ (L : List Int) (k : Nat), flatWS (L.take k) = (flatWS L).take k
  | [], k => by simp [flatWS]
  | x :: r, 0 => by simp [flatWS]
  | x :: r, k + 1 => by simp [flatWS, flatWS_take r k]
theorem flatWS_drop : ∀ (L : List Int) (k : Nat), flatWS (L.drop k) = (flatWS L).drop k
  | [], k => by simp [flatWS]
  | x :: r, 0 => by simp [flatWS]
  | x :: r, k + 1 => by simp [flatWS, flatWS_drop r k]
theorem flatWS_over (L : List Int) (d : Nat) (l : List Int) : (flatWS L).take d ++ flatWS l ++ (flatWS L).drop (d + l.length) = flatWS (over L d l) := by
  unfold over; rw [flatWS_append, flatWS_append, flatWS_take, flatWS_drop, List.append_assoc]

/-- The words of block A, of which d are laid; block A + 1 holds those that are not. -/
structure Lay (w0 w : World) (A n : Nat) (L : List Int) (d : Nat) : Prop where
  a : w0.heap.size ≤ A
  e : Ext w0 w
  row : w.heap[A]? = some (.cells (flatWS L).toArray 26 (0, 0))
  len : L.length = n
  hd : d ≤ n
  u : ∀ x ∈ L, U64 x
  box : ∃ o, Cb w (A + 1) [.slice (some ⟨A, o, none⟩) (n - d) (n - d)] ∧ (d < n → o = d)
  only : ∀ i v, w.cell? ⟨A + 1, i, none⟩ = some v → i = 0
theorem Lay.kp {w0 w w' : World} {A n : Nat} {L : List Int} {d : Nat} (h : Lay w0 w A n L d) (e : Ext w w') : Lay w0 w' A n L d := by
  obtain ⟨o, hb, ho⟩ := h.box
  exact ⟨h.a, h.e.trans e, (e.block A (Array.getElem?_eq_some_iff.1 h.row).1).trans h.row, h.len, h.hd, h.u, ⟨o, hb.ext e, ho⟩, fun i v hv => h.only i v ((World.cell?_of_block (w := w) (a := ⟨A + 1, i, none⟩) (e.block (A + 1) hb.lt)).symm.trans hv)⟩

/-- Pairs of ints lie neither in the words' block nor in the next one. -/
theorem Lay.off2 {w0 w : World} {A n : Nat} {L : List Int} {d : Nat} (h : Lay w0 w A n L d) {b o : Nat} {x y : Int} (h1 : w.cell? ⟨b, o, none⟩ = some (.int .i64 x)) (h2 : w.cell? ⟨b, o + 1, none⟩ = some (.int .i64 y)) : b ≠ A ∧ b ≠ A + 1 := by
  refine ⟨fun e => ?_, fun e => ?_⟩
  · subst e
    unfold World.cell? at h1
    simp only [h.row] at h1
    have hf := flatWS_0 L o
    have h3 : (flatWS L)[o]? = some (.int .i64 x) := by simpa using h1
    rw [h3] at hf
    cases hx : L[o]? with
    | none => rw [hx] at hf; cases hf
    | some z => rw [hx] at hf; cases hf
  · subst e
    have := h.only _ _ h2
    omega
theorem step_copy_run {P : Program} (w : World) {ops : Array Oper} {o : Oper} {a : Act} {K : Act → World → Prop} {Q : Exit → Act → World → Prop} {E : Prop} (hgd : o.guard = none) (s x : Operand) (t tn : TypeId)
    (ho : o.op = .call { callee := .builtin .copy, args := #[s, x], argTypes := #[t, tn] }) (vs vx : Value) (hs : a.eval s = vs) (hx : a.eval x = vx)
    (v' : Value) (w' : World) (hr : (Builtin.copy_ #[t, tn] o.type #[vs, vx]).run P w = .ok v' w') (h : K (a.put o.dst v') w') :
    if Region.wanted o (yielded ops a.tmps) = true then Oper.wp P o a w K Q else E := by
  have hw : Region.wanted o (yielded ops a.tmps) = true := by simp [Region.wanted, hgd]
  rw [if_pos hw]
  unfold Oper.wp
  simp [execOp, ho, resolve, invoke, builtin, hs, hx, hr, Result.andThen]
  exact h

theorem Lay.copy {w0 w : World} {A n : Nat} {L : List Int} {d : Nat} (h : Lay w0 w A n L d) {sl : Option Addr} {m c : Nat} {l : List Int} (hl : WS w sl m c l) (h0 : 0 < m) (hr : d + m ≤ n) :
    (Builtin.copy_ #[27, 27] 3 #[.slice (some ⟨A, d, none⟩) (n - d) (n - d), .slice sl m c]).run Tryz.prog w = .ok (.int .i64 (m : Int)) (w.setRow A (flatWS (over L d l)).toArray) := by
  obtain ⟨b, o, rfl⟩ := hl.addr h0
  obtain ⟨i0, hi, hz0, hz1, hz2⟩ := info_parts infoWS
  have hlen : (flatWS l).length = m := by rw [flatWS_len, hl.len, Nat.mul_one]
  have hL : (flatWS L).length = n := by rw [flatWS_len, h.len, Nat.mul_one]
  have := run_copy_row (P := Tryz.prog) w 27 27 3 26 A d (n - d) (n - d) ⟨b, o, none⟩ m c (flatWS L).toArray 26 (flatWS l) Tryz.underlying27 (by rw [hi]; simp [hz1]) h.row (by rw [hlen]; exact (Nat.min_eq_left (by omega)).symm)
    (fun j v hv => by
      rw [flatWS_0] at hv
      cases hx : l[j]? with
      | none => rw [hx] at hv; cases hv
      | some x =>
        rw [hx] at hv; cases hv
        obtain ⟨_, b', o', e, hc⟩ := hl.2.2.2.2 j x hx
        cases e
        rw [add_is]; exact hc) (by simp [hL, hlen]; omega) (flatWS_one l)
  rw [this]
  simp only [hlen]
  rw [← hl.len, flatWS_over]
  rfl
theorem Lay.done {w0 w : World} {A n : Nat} {L : List Int} {d : Nat} (h : Lay w0 w A n L d) {l : List Int} (hu : ∀ x ∈ l, U64 x) (hr : d + l.length ≤ n) (o : Nat) (ho : d + l.length < n → o = d + l.length) :
    Lay w0 ((w.setRow A (flatWS (over L d l)).toArray).setCell ⟨A + 1, 0, none⟩ (.slice (some ⟨A, o, none⟩) (n - (d + l.length)) (n - (d + l.length)))) A n (over L d l) (d + l.length) ∧
      Kp A w ((w.setRow A (flatWS (over L d l)).toArray).setCell ⟨A + 1, 0, none⟩ (.slice (some ⟨A, o, none⟩) (n - (d + l.length)) (n - (d + l.length)))) := by
  obtain ⟨o', hb, _⟩ := h.box
  have hs : (w.setRow A (flatWS (over L d l)).toArray).heap.size = w.heap.size := by simp
  have hb2 : Cb (w.setRow A (flatWS (over L d l)).toArray) (A + 1) [.slice (some ⟨A, o', none⟩) (n - d) (n - d)] := by
    have hbl := setRow_other w A (A + 1) (flatWS (over L d l)).toArray (by omega)
    exact ⟨by rw [hs]; exact hb.lt, fun i v hv => (World.cell?_of_block (w := w) hbl).trans (hb.c i v hv), fun i => (World.frozen?_of_block (w := w) (a := ⟨A + 1, i, none⟩) hbl).trans (hb.f i)⟩
  have hblk : ∀ b, b ≠ A → b ≠ A + 1 → ((w.setRow A (flatWS (over L d l)).toArray).setCell ⟨A + 1, 0, none⟩ (.slice (some ⟨A, o, none⟩) (n - (d + l.length)) (n - (d + l.length)))).heap[b]? = w.heap[b]? := fun b h1 h2 => by
    rw [Below.heap_setCell _ _ _ _ (by simpa using h2), setRow_other _ _ _ _ h1]
  refine ⟨⟨h.a, ?_, ?_, ?_, hr, ?_, ⟨o, ?_, ho⟩, ?_⟩, ⟨rfl, rfl, rfl, ?_, fun b _ h1 h2 => hblk b h1 h2⟩⟩
  · have ha := h.a
    have h1 : Ext w0 (w.setRow A (flatWS (over L d l)).toArray) := below_setRow h.e ha _
    exact h1.setCell (by omega) _
  · rw [Below.heap_setCell _ _ _ _ (by simp)]
    exact setRow_heap w A _ _ _ _ h.row
  · rw [over_len (by rw [h.len]; exact hr)]; exact h.len
  · intro x hx
    unfold over at hx
    rcases List.mem_append.1 hx with hx | hx
    · exact h.u x (List.mem_of_mem_take hx)
    · rcases List.mem_append.1 hx with hx | hx
      · exact hu x hx
      · exact h.u x (List.mem_of_mem_drop hx)
  · exact hb2.upd (i := 0) (by simp) _
  · intro i v hv
    by_cases hi : i = 0
    · exact hi
    · rw [set_far hi] at hv
      exact h.only i v ((World.cell?_of_block (w := w) (a := ⟨A + 1, i, none⟩) (setRow_other w A (A + 1) _ (by omega))).symm.trans hv)
  · rw [World.size_setCell, hs]; exact Nat.le_refl _

/-- What the closure leaves. -/
def LE (w0 : World) (A n : Nat) (L : List Int) (d : Nat) (w : World) (e : Ending) (w' : World) : Prop := e = .returned (.tuple #[]) ∧ Lay w0 w' A n L d ∧ Kp A w w'
set_option maxHeartbeats 2000000 in
set_option maxRecDepth 100000 in
theorem lay_any {w0 w : World} {A n : Nat} {L : List Int} {d : Nat} (h : Lay w0 w A n L d) {sl : Option Addr} {m c : Nat} {l : List Int} (hl : WS w sl m c l) (h0 : 0 < m) (hr : d + m ≤ n) :
    Calls Tryz.prog 39 #[.slice sl m c, .pointer (some ⟨A + 1, 0, none⟩)] w (LE w0 A n (over L d l) (d + m) w) := by
  have hd := h.kp (Ext.drew (Ext.refl w))
  obtain ⟨o, hb, ho⟩ := hd.box
  rw [ho (by omega)] at hb
  have hlm := hl.len
  have HC := Lib.hid (hd.copy (hl.ext (Ext.drew (Ext.refl w))) h0 hr)
  have y0 := hb.c 0 _ rfl
  have z0 := hb.f 0
  have hD := fun o ho => hd.done (l := l) hl.range (by omega) o ho
  have hbl := setRow_other w.drew A (A + 1) (flatWS (over L d l)).toArray (by omega)
  have y1 : (w.drew.setRow A (flatWS (over L d l)).toArray).cell? ⟨A + 1, 0, none⟩ = some (.slice (some ⟨A, d, none⟩) (n - d) (n - d)) := (World.cell?_of_block (w := w.drew) hbl).trans y0
  have z1 : (w.drew.setRow A (flatWS (over L d l)).toArray).frozen? ⟨A + 1, 0, none⟩ = false := (World.frozen?_of_block (w := w.drew) (a := ⟨A + 1, 0, none⟩) hbl).trans z0
  have hk : Kp A w w.drew := (Kp.refl A w).drew
  rw [hlm] at hD
  have HD := Lib.hid hD
  clear hD hd hb hbl hl h
  generalize w.drew.setRow A (flatWS (over L d l)).toArray = WX at *
  have hsub : n - (d + m) = n - d - m := by omega
  rw [hsub] at HD
  have hlt : d + m < n ↔ ¬ n - d = m := by omega
  have hq : (m : Int) ≤ ((n - d : Nat) : Int) := by omega
  have Hlt := Lib.hid hlt
  clear hlt hsub hr ho
  generalize n - d = q at *
  by_cases hf : q = m
  · subst hf
    have hF := HD.out d (fun c => absurd rfl (Hlt.out.1 c))
    rw [Nat.sub_self] at hF
    have HF := Lib.hid hF
    clear HD Hlt hF
    go_enter Tryz.func39, Tryz.ntmps39
    go_region_law (refine step_copy_run _ rfl (.tmp 4) (.tmp 5) _ _ rfl _ _ rfl rfl _ _ HC.out ?_)
    all_goals
      go_end0
      exact ⟨rfl, HF.out.1, hk.trans HF.out.2⟩
  · have hF := HD.out (d + m) (fun _ => rfl)
    have HF := Lib.hid hF
    have hfi : ¬ (q : Int) = (m : Int) := by omega
    clear HD Hlt hF
    go_enter Tryz.func39, Tryz.ntmps39
    go_region_law (refine step_copy_run _ rfl (.tmp 4) (.tmp 5) _ _ rfl _ _ rfl rfl _ _ HC.out ?_)
    all_goals
      go_end0
      exact ⟨rfl, HF.out.1, hk.trans HF.out.2⟩

end Go.Proofs.YtmonkcekkhfafaaGreatDoor.Enc

/- EncPad:
  What the landed layState lays: of a register, of a ballot. Conditions: the block for the words lies, the state's lists are there, and votes are choices.
-/
namespace Go.Proofs.YtmonkcekkhfafaaGreatDoor.Enc
open Go.RowKit (Below intOf)
open Go.Proofs.YtmonkcekkhfafaaGreatDoor.Aut
open Go.Proofs.YtmonkcekkhfafaaGreatDoor.Reg (cf bx)

theorem over_pad {d l : List Int} {r : Nat} (_ : l.length ≤ r) : over (d ++ List.replicate r 0) d.length l = (d ++ l) ++ List.replicate (r - l.length) 0 := by
  unfold over
  rw [List.take_left, List.drop_append, List.drop_eq_nil_of_le (by omega), List.nil_append, List.drop_replicate, show d.length + l.length - d.length = l.length by omega, List.append_assoc]
/-- Block A holds the words d, and behind them zeros. -/
def LP (w0 w : World) (A n : Nat) (d : List Int) : Prop := Lay w0 w A n (d ++ List.replicate (n - d.length) 0) d.length
theorem LP.kp {w0 w w' : World} {A n : Nat} {d : List Int} (h : LP w0 w A n d) (e : Ext w w') : LP w0 w' A n d := Lay.kp h e
theorem LP.lt {w0 w : World} {A n : Nat} {d : List Int} (h : LP w0 w A n d) : A + 1 < w.heap.size := by
  obtain ⟨o, hb, _⟩ := Lay.box h
  exact hb.lt
theorem LP.le {w0 w : World} {A n : Nat} {d : List Int} (h : LP w0 w A n d) : d.length ≤ n := Lay.hd h
/-- The closure, as a value. -/
abbrev fv (A : Nat) : Value := .func (.func 39) #[] #[.pointer (some ⟨A + 1, 0, none⟩)]
def LQ (w0 : World) (A n : Nat) (d : List Int) (w : World) (e : Ending) (w' : World) : Prop := e = .returned (.tuple #[]) ∧ LP w0 w' A n d ∧ Kp A w w'
theorem lay_pad {w0 w : World} {A n : Nat} {d : List Int} (h : LP w0 w A n d) {sl : Option Addr} {m c : Nat} {l : List Int} (hl : WS w sl m c l) (h0 : 0 < m) (hr : d.length + m ≤ n) :
    Calls Tryz.prog 39 #[.slice sl m c, .pointer (some ⟨A + 1, 0, none⟩)] w (LQ w0 A n (d ++ l) w) := by
  refine (lay_any h hl h0 hr).mono fun e w' hh => ⟨hh.1, ?_, hh.2.2⟩
  have hlm := hl.len
  have h2 := hh.2.1
  rw [over_pad (by omega)] at h2
  unfold LP
  rw [List.length_append, hlm, show n - (d.length + m) = n - d.length - l.length by omega]
  exact h2

def encR (s : St) : List Int := [s.reg]
def encB (s : St) : List Int := [bitZ s.closed] ++ s.votes ++ (counts s.votes).drop 1

set_option maxHeartbeats 4000000 in
set_option maxRecDepth 100000 in
theorem lays_reg (p m : Int) (a v t : Sl) (s : St) (w0 w : World) (A n : Nat) (hL : LP w0 w A n []) (hn : n = 1) (hU : U64 s.reg) :
    Calls Tryz.prog 38 #[cf 1 p m, sv s.reg a v t s.closed, fv A] w (LQ w0 A n (encR s) w) := by
  have e1 : Ext w ((w.alloc (bx 1 p m)).alloc (sb s.reg a v t s.closed)) := (Ext.new w _).alloc _
  have HL := Lib.hid (hL.kp e1)
  have HK := Lib.hid (Kp.of_ext (A := A) e1)
  have HU := Lib.hid hU
  obtain ⟨sr, sk, su, sw, scl⟩ := s
  clear hL hU e1
  dsimp only [cf, bx, sv, sb, encR] at *
  go_enter Tryz.func38, Tryz.ntmps38
  go_wp2_with (fail)
  have hl := WS.lit ((w.alloc (.cells #[.int .i64 1, .int .i64 p, .int .i64 m] 24)).alloc (.cells #[.int .u64 sr, .slice a.a a.n a.c, .slice v.a v.n v.c, .slice t.a t.n t.c, .bool scl] 30)) sr HU.out
  simp only [World.size_alloc] at hl
  refine (words_u64 _ _ _ _ _ hl).mono ?_
  rintro e w2 ⟨⟨xa, xn, xc⟩, he, hW, e2, _⟩
  dsimp only at he hW
  subst he
  have e3 := (Ext.new _ (.cells #[.int .u64 sr] 26)).trans e2
  replace HL := Lib.hid (HL.out.kp e3)
  replace HK := Lib.hid (HK.out.trans (Kp.of_ext e3))
  have hx : xn = 1 := by have := hW.len; simpa using this.symm
  subst hx
  have HW := Lib.hid hW
  clear hl hW e2 e3
  go_wp2_with (fail)
  refine (lay_pad HL.out HW.out (by decide) (by simp; omega)).mono ?_
  rintro e w3 ⟨he, L3, K3⟩
  subst he
  replace HL := Lib.hid L3
  replace HK := Lib.hid (HK.out.trans K3)
  clear HW L3 K3
  go_wp2_with (fail)
  go_end0
  exact ⟨rfl, HL.out, HK.out⟩

set_option maxHeartbeats 8000000 in
set_option maxRecDepth 100000 in
theorem lays_bal (p : Int) (m : Nat) (a v t : Sl) (s : St) (w0 w : World) (A n : Nat) (hL : LP w0 w A n []) (hn : n = m + 9) (hm : 1 ≤ m) (hS : SS w0 a v t s) (hV : VotesOk m s) :
    Calls Tryz.prog 38 #[cf 5 p m, sv s.reg a v t s.closed, fv A] w (LQ w0 A n (encB s) w) := by
  have e1 : Ext w ((w.alloc (bx 5 p m)).alloc (sb s.reg a v t s.closed)) := (Ext.new w _).alloc _
  have hA := hL.lt
  have HB : RowKit.Hid (Cb ((w.alloc (bx 5 p m)).alloc (sb s.reg a v t s.closed)) (w.heap.size + 1) (sc s.reg a v t s.closed)) := Lib.hid (by
    have h := Cb.new (w.alloc (bx 5 p m)) (sc s.reg a v t s.closed) 30
    rwa [World.size_alloc] at h)
  have HL := Lib.hid (hL.kp e1)
  have HK := Lib.hid (Kp.of_ext (A := A) e1)
  have HN := Lib.hid hS.2.2.2
  have HV := Lib.hid hV
  have hvl : s.votes.length = m := by have := hV.1; omega
  have htn : t.n = m := by rw [← hS.2.2.2.len]; exact hvl
  obtain ⟨sr, sk, su, sw, scl⟩ := s
  have n1 : w.heap.size + 1 ≠ A := by omega
  have n2 : w.heap.size + 1 ≠ A + 1 := by omega
  have Hne := Lib.hid (And.intro n1 n2)
  have hb01 : 0 ≤ bitZ scl := by cases scl <;> simp [bitZ]
  have hbI : I64 (bitZ scl) := by cases scl <;> (unfold I64 bitZ; simp)
  have Hb := Lib.hid (And.intro hb01 hbI)
  have Hvl := Lib.hid hvl
  clear hL e1 hA hS hV n1 n2 hb01 hbI hvl
  dsimp only [cf, bx, sv, sb, sc, encB] at *
  obtain ⟨ta, tn, tc⟩ := t
  dsimp only at *
  subst htn
  go_enter Tryz.func38, Tryz.ntmps38
  obtain ⟨s0, s1, s2, s3, s4⟩ := HB.out.five
  go_wp2_with (fail)
  refine (ebit_any _ _).mono ?_
  rintro e w' ⟨rfl, rfl⟩
  clear s0 s1 s2 s3 s4
  go_wp2_with (fail)
  have hl := NS.lit ((w.alloc (.cells #[.int .i64 5, .int .i64 p, .int .i64 tn] 24)).alloc (.cells #[.int .u64 sr, .slice a.a a.n a.c, .slice v.a v.n v.c, .slice ta tn tc, .bool scl] 30)) (bitZ scl) Hb.out.2
  simp only [World.size_alloc] at hl
  refine (words_int _ _ _ _ _ hl (fun x hx => by rw [List.mem_singleton.1 hx]; exact Hb.out.1)).mono ?_
  rintro e w2 ⟨⟨xa, xn, xc⟩, he, hW, e2, _⟩
  dsimp only at he hW
  subst he
  have e3 := (Ext.new _ (.cells #[.int .i64 (bitZ scl)] 3)).trans e2
  replace HL := Lib.hid (HL.out.kp e3)
  replace HK := Lib.hid (HK.out.trans (Kp.of_ext e3))
  replace HB := Lib.hid (HB.out.ext e3)
  have hx : xn = 1 := by have := hW.len; simpa using this.symm
  subst hx
  have HW := Lib.hid hW
  clear hl hW e2 e3
  go_wp2_with (fail)
  refine (lay_pad HL.out HW.out (by decide) (by simp; omega)).mono ?_
  rintro e w3 ⟨he, L3, K3⟩
  subst he
  replace HL := Lib.hid L3
  replace HK := Lib.hid (HK.out.trans K3)
  replace HB := Lib.hid (K3.cb HB.out Hne.out.1 Hne.out.2)
  clear HW L3 K3
  obtain ⟨s0, s1, s2, s3, s4⟩ := HB.out.five
  have HNs := Lib.hid (HN.out.ext HL.out.e)
  go_wp2_with (fail)
  refine (words_int _ _ _ _ _ HNs.out (fun x hx => (HV.out.2 x hx).1)).mono ?_
  rintro e w4 ⟨⟨xa, xn, xc⟩, he, hW, e4, _⟩
  dsimp only at he hW
  subst he
  clear s0 s1 s2 s3 s4 HNs
  replace HL := Lib.hid (HL.out.kp e4)
  replace HK := Lib.hid (HK.out.trans (Kp.of_ext e4))
  replace HB := Lib.hid (HB.out.ext e4)
  have hx : xn = tn := by rw [← hW.len]; exact Hvl.out
  subst hx
  have HW := Lib.hid hW
  clear hW e4
  go_wp2_with (fail)
  refine (lay_pad HL.out HW.out (by omega) (by simp; omega)).mono ?_
  rintro e w5 ⟨he, L5, K5⟩
  subst he
  replace HL := Lib.hid L5
  replace HK := Lib.hid (HK.out.trans K5)
  replace HB := Lib.hid (K5.cb HB.out Hne.out.1 Hne.out.2)
  clear HW L5 K5
  obtain ⟨s0, s1, s2, s3, s4⟩ := HB.out.five
  have HNs := Lib.hid (HN.out.ext HL.out.e)
  go_wp2_with (fail)
  refine (tallies_any _ _ _ _ _ HNs.out HV.out.2).mono ?_
  rintro e w6 ⟨⟨ya, yn, yc⟩, he, hY, e6⟩
  dsimp only at he hY
  subst he
  clear s0 s1 s2 s3 s4 HNs
  replace HL := Lib.hid (HL.out.kp e6)
  replace HK := Lib.hid (HK.out.trans (Kp.of_ext e6))
  have HY := Lib.hid hY
  clear e6 hY
  go_wp2_with (fail)
  refine (words_int _ _ _ _ _ HY.out (fun x hx => by
    obtain ⟨k, _, rfl⟩ := List.mem_map.1 (List.mem_of_mem_drop hx)
    omega)).mono ?_
  rintro e w7 ⟨⟨za, zn, zc⟩, he, hW, e7, _⟩
  dsimp only at he hW
  subst he
  replace HL := Lib.hid (HL.out.kp e7)
  replace HK := Lib.hid (HK.out.trans (Kp.of_ext e7))
  have hx : zn = 8 := by rw [← hW.len, List.length_drop, counts_len]
  subst hx
  have HW := Lib.hid hW
  clear hW e7 HY
  go_wp2_with (fail)
  refine (lay_pad HL.out HW.out (by decide) (by simp only [List.length_append, List.length_nil, List.length_singleton, Hvl.out]; omega)).mono ?_
  rintro e w8 ⟨he, L8, K8⟩
  subst he
  replace HL := Lib.hid L8
  replace HK := Lib.hid (HK.out.trans K8)
  clear HW L8 K8
  go_wp2_with (fail)
  go_end0
  exact ⟨rfl, HL.out, HK.out⟩

end Go.Proofs.YtmonkcekkhfafaaGreatDoor.Enc

/- EncEnc:
  The landed Enc: what it returns where layState lays a state's words; registers and ballots. Conditions: the package's table lies; the state's lists are there.
-/
namespace Go.Proofs.YtmonkcekkhfafaaGreatDoor.Enc
open Go.RowKit (Below intOf)
open Go.Proofs.YtmonkcekkhfafaaGreatDoor.Aut
open Go.Proofs.YtmonkcekkhfafaaGreatDoor.Reg (cf bx fits_any)

theorem row_ws {w : World} {A n : Nat} {L : List Int} (h : w.heap[A]? = some (.cells (flatWS L).toArray 26 (0, 0))) (hl : L.length = n) (hn : n ≤ 1048576) (hu : ∀ x ∈ L, U64 x) : WS w (some ⟨A, 0, none⟩) n n L :=
  ⟨hl, hn, Nat.le_refl _, by omega, fun j x hx => ⟨hu x (List.mem_of_getElem? hx), A, 0, rfl, by
    have hf := flatWS_0 L j
    rw [hx] at hf
    unfold World.cell?
    simp only [h, Nat.zero_add]
    simpa using hf⟩⟩
theorem lp_new (w : World) (n : Nat) : LP w ((w.alloc (.cells (zerosW n) 26)).alloc (.cells #[.slice (some ⟨w.heap.size, 0, none⟩) n n] 27)) w.heap.size n [] := by
  have hb := Cb.new (w.alloc (.cells (zerosW n) 26)) [.slice (some ⟨w.heap.size, 0, none⟩) n n] 27
  rw [World.size_alloc] at hb
  refine ⟨Nat.le_refl _, (Ext.new w _).alloc _, ?_, by simp, Nat.zero_le _, fun x hx => ?_, ⟨0, hb, fun _ => rfl⟩, fun i v hv => ?_⟩
  · have h1 : (w.alloc (.cells (zerosW n) 26)).heap[w.heap.size]? = some (.cells (zerosW n) 26) := World.alloc_heap_new w _
    have h2 := (Ext.new (w.alloc (.cells (zerosW n) 26)) (.cells #[.slice (some ⟨w.heap.size, 0, none⟩) n n] 27)).block w.heap.size (by simp)
    rw [h2, h1]
    congr 2
    apply Array.ext'
    rw [zerosW_flat]; simp
  · simp at hx
    rw [hx.2]; unfold U64; simp
  · have hn := World.alloc_heap_new (w.alloc (.cells (zerosW n) 26)) (.cells #[.slice (some ⟨w.heap.size, 0, none⟩) n n] 27)
    rw [World.size_alloc] at hn
    unfold World.cell? at hv
    simp only [hn] at hv
    rcases i with _ | i
    · rfl
    · simp at hv

/-- What Enc answers. -/
def EnE (x : List Int × Int) (w : World) (e : Ending) (w' : World) : Prop := ∃ l : Sl, e = .returned (.tuple #[.slice l.a l.n l.c, .int .i64 x.2]) ∧ WS w' l.a l.n l.c x.1 ∧ Ext w w'
/-- All words are laid. -/
def LF (w0 : World) (A n : Nat) (xs : List Int) (w : World) (e : Ending) (w' : World) : Prop := e = .returned (.tuple #[]) ∧ (∃ d, Lay w0 w' A n xs d) ∧ Kp A w w'
theorem LQ.all {w0 w w' : World} {A n : Nat} {xs : List Int} {e : Ending} (h : LQ w0 A n xs w e w') (hn : n = xs.length) : LF w0 A n xs w e w' := by
  refine ⟨h.1, ⟨xs.length, ?_⟩, h.2.2⟩
  have h2 : Lay w0 w' A n (xs ++ List.replicate (n - xs.length) 0) xs.length := h.2.1
  rwa [show n - xs.length = 0 by omega, List.replicate_zero, List.append_nil] at h2
/-- layState lays these words. -/
def Lays (k p m : Int) (s : St) (xs : List Int) : Prop := ∀ (a v t : Sl) (w0 w : World) (A n : Nat), Reg.Tab w0 → Tab w0 → LP w0 w A n [] → n = xs.length → SS w0 a v t s → Calls Tryz.prog 38 #[cf k p m, sv s.reg a v t s.closed, fv A] w (LF w0 A n xs w)

set_option maxHeartbeats 4000000 in
set_option maxRecDepth 100000 in
theorem enc_yes (k p m : Int) (a v t : Sl) (s : St) (xs : List Int) (w : World) (hT : Reg.Tab w) (hT2 : Tab w) (hS : SS w a v t s) (hR : rightS k p m s = true) (hx : (xs.length : Int) = Reg.hom k m) (hL : Lays k p m s xs) (hn2 : xs.length ≤ 1048576) :
    Calls Tryz.prog 14 #[cf k p m, sv s.reg a v t s.closed] w (EnE (xs, 0) w) := by
  have X0 := Lib.hid ((Ext.new w (bx k p m)).alloc (sb s.reg a v t s.closed))
  have HC : RowKit.Hid (Cb ((w.alloc (bx k p m)).alloc (sb s.reg a v t s.closed)) w.heap.size [.int .i64 k, .int .i64 p, .int .i64 m]) := Lib.hid ((Cb.new w _ _).alloc _)
  have HB : RowKit.Hid (Cb ((w.alloc (bx k p m)).alloc (sb s.reg a v t s.closed)) (w.heap.size + 1) (sc s.reg a v t s.closed)) := Lib.hid (by
    have h := Cb.new (w.alloc (bx k p m)) (sc s.reg a v t s.closed) 30
    rwa [World.size_alloc] at h)
  have HF : RowKit.Hid (∀ W, Calls Tryz.prog 35 #[cf k p m] W fun e w' => e = .returned (.bool (Reg.fits k p m)) ∧ Ext W w') := Lib.hid (fun W => (fits_any k p m W).mono fun _ _ h => ⟨h.1, h.2 ▸ Ext.new W _⟩)
  have HRg : RowKit.Hid (∀ W, Ext w W → _) := Lib.hid (fun W hE => Lan.right_any k p m a v t s W (hS.ext hE))
  have HHo : RowKit.Hid (∀ W, Ext w W → Calls Tryz.prog 37 #[cf k p m] W fun e w' => e = .returned (.int .i64 (Reg.home k p m)) ∧ Ext W w') := Lib.hid (fun W hE => Reg.home_any k p m W (hT.below hE))
  have hf := right_fits hR
  have hf' : Reg.fits k p m = true := hf
  have hhm : Reg.home k p m = Reg.hom k m := by unfold Reg.home; rw [if_pos hf']
  rw [hf'] at HF
  rw [hR] at HRg
  rw [hhm] at HHo
  obtain ⟨n, hn⟩ : ∃ n : Nat, n = xs.length := ⟨_, rfl⟩
  rw [← hx, ← hn] at HHo
  rw [← hn] at hn2
  have HLs : RowKit.Hid (∀ W, Ext w W → Calls Tryz.prog 38 #[cf k p m, sv s.reg a v t s.closed, fv W.heap.size] ((W.alloc (.cells (zerosW n) 26)).alloc (.cells #[.slice (some ⟨W.heap.size, 0, none⟩) n n] 27)) (LF W W.heap.size n xs ((W.alloc (.cells (zerosW n) 26)).alloc (.cells #[.slice (some ⟨W.heap.size, 0, none⟩) n n] 27)))) := Lib.hid (fun W hE => hL a v t W _ W.heap.size n (hT.below hE) (Trp.tab_ext hT2 hE) (lp_new W n) hn (hS.ext hE))
  have hmk := fun W => make_words n hn2 W
  obtain ⟨c0, c1, c2⟩ := HC.out.three
  obtain ⟨s0, s1, s2, s3, s4⟩ := HB.out.five
  obtain ⟨sr, sk, su, sw, scl⟩ := s
  have HNn := Lib.hid hn
  clear hf hf' hhm hR hS hT hT2 hL hx hn
  dsimp only [cf, bx, sb, sc, sv] at *
  go_enter Tryz.func14, Tryz.ntmps14
  go_wp2_with (fail)
  refine (HF.out _).mono ?_
  rintro e w1 ⟨rfl, e1⟩
  replace X0 := Lib.hid (X0.out.trans e1)
  replace HC := Lib.hid (HC.out.ext e1)
  replace HB := Lib.hid (HB.out.ext e1)
  clear HF e1 c0 c1 c2 s0 s1 s2 s3 s4
  obtain ⟨c0, c1, c2⟩ := HC.out.three
  obtain ⟨s0, s1, s2, s3, s4⟩ := HB.out.five
  have HQ := Lib.hid (HRg.out w1 X0.out)
  clear HRg
  go_wp2_with (fail)
  refine HQ.out.mono ?_
  rintro e w2 ⟨rfl, e2⟩
  replace X0 := Lib.hid (X0.out.trans e2)
  replace HC := Lib.hid (HC.out.ext e2)
  replace HB := Lib.hid (HB.out.ext e2)
  clear HQ e2 c0 c1 c2 s0 s1 s2 s3 s4
  obtain ⟨c0, c1, c2⟩ := HC.out.three
  obtain ⟨s0, s1, s2, s3, s4⟩ := HB.out.five
  have HQ := Lib.hid (HHo.out w2 X0.out)
  clear HHo
  go_wp2_with (fail)
  refine HQ.out.mono ?_
  rintro e w3 ⟨rfl, e3⟩
  replace X0 := Lib.hid (X0.out.trans e3)
  replace HC := Lib.hid (HC.out.ext e3)
  replace HB := Lib.hid (HB.out.ext e3)
  clear HQ e3 c0 c1 c2 s0 s1 s2 s3 s4
  obtain ⟨c0, c1, c2⟩ := HC.out.three
  obtain ⟨s0, s1, s2, s3, s4⟩ := HB.out.five
  have e4 : Ext w3 ((w3.alloc (.cells (zerosW n) 26)).alloc (.cells #[.slice (some ⟨w3.heap.size, 0, none⟩) n n] 27)) := (Ext.new w3 _).alloc _
  replace HC := Lib.hid (HC.out.ext e4)
  replace HB := Lib.hid (HB.out.ext e4)
  obtain ⟨d0, d1, d2⟩ := HC.out.three
  obtain ⟨u0, u1, u2, u3, u4⟩ := HB.out.five
  have HQ := Lib.hid (HLs.out w3 X0.out)
  clear HLs
  go_wp2_with (fail)
  refine HQ.out.mono ?_
  rintro e w5 ⟨he, ⟨d, hP⟩, hK⟩
  subst he
  have hE : Ext w3 w5 := hP.e
  have hr : WS w5 (some ⟨w3.heap.size, 0, none⟩) n n xs := row_ws hP.row hP.len hn2 hP.u
  have HF := Lib.hid (And.intro hr (X0.out.trans hE))
  clear hr hE hP hK HQ c0 c1 c2 s0 s1 s2 s3 s4 d0 d1 d2 u0 u1 u2 u3 u4 HC HB X0
  go_wp2_with (fail)
  go_ret2
  exact ⟨⟨some ⟨w3.heap.size, 0, none⟩, n, n⟩, rfl, HF.out.1, HF.out.2⟩

theorem enc_reg (p m : Int) (a v t : Sl) (s : St) (w : World) (hT : Reg.Tab w) (hT2 : Tab w) (hS : SS w a v t s) (hR : rightS 1 p m s = true) :
    Calls Tryz.prog 14 #[cf 1 p m, sv s.reg a v t s.closed] w (EnE (encR s, 0) w) :=
  enc_yes 1 p m a v t s (encR s) w hT hT2 hS hR (by simp [encR, Reg.hom]) (fun a v t w0 w A n _ _ hP hn hs => (lays_reg p m a v t s w0 w A n hP hn hs.1).mono fun _ _ h => LQ.all h hn) (by simp [encR])
theorem encB_len {m : Nat} {s : St} (h : VotesOk m s) : (encB s).length = m + 9 := by
  have := h.1
  unfold encB
  simp only [List.length_append, List.length_singleton, List.length_drop, counts_len]
  omega
theorem enc_bal (p m : Int) (a v t : Sl) (s : St) (w : World) (hT : Reg.Tab w) (hT2 : Tab w) (hS : SS w a v t s) (hR : rightS 5 p m s = true) :
    Calls Tryz.prog 14 #[cf 5 p m, sv s.reg a v t s.closed] w (EnE (encB s, 0) w) := by
  have hb := fits_of (right_fits hR)
  obtain ⟨q, rfl⟩ : ∃ q : Nat, m = q := ⟨m.toNat, by omega⟩
  have hV := (right_iff.1 hR).2.2.2.2 rfl
  have hl := encB_len hV
  refine enc_yes 5 p q a v t s (encB s) w hT hT2 hS hR (by rw [hl]; simp [Reg.hom]; omega) (fun a v t w0 w A n _ _ hP hn hs => ?_) (by rw [hl]; omega)
  exact (lays_bal p q a v t s w0 w A n hP (by rw [hn, hl]) (by omega) hs hV).mono fun _ _ h => LQ.all h hn

end Go.Proofs.YtmonkcekkhfafaaGreatDoor.Enc

