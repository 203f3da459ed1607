/-
  What Patch returns: the words that are written, or ErrArg. Conditions: the words and the writes are there.
-/
import Derived.Test.YtdofplmoiljkjaaSame
import Derived.Laws.CopyOwn
import Derived.Laws.MakeOwn
import Derived.Laws.OwnMore
namespace Go.Proofs.Ytdofplmoiljkjaa
open Go.RowKit (Below intOf)

/-- The words of block g, from its start on. -/
def RowW (w : World) (g : Nat) (xs : List Int) : Prop := ∀ j x, xs[j]? = some x → U64 x ∧ w.cell? ⟨g, j, none⟩ = some (.int .u64 x) ∧ w.frozen? ⟨g, j, none⟩ = false

section
variable {w w' : World} {g : Nat} {xs : List Int}
theorem RowW.ext (h : RowW w g xs) (e : Ext w w') : RowW w' g xs := fun j x hx => by
  obtain ⟨h1, h2, h3⟩ := h j x hx; exact ⟨h1, e.cell h2, (e.frozen h2).trans h3⟩
theorem RowW.set (h : RowW w g xs) {i : Nat} (hi : i < xs.length) {x : Int} (hx : U64 x) : RowW (w.setCell ⟨g, i, none⟩ (.int .u64 x)) g (xs.set i x) := fun j y hj => by
  by_cases e : i = j
  · subst e
    rw [List.getElem?_set_self hi] at hj
    cases hj
    obtain ⟨h1, h2, h3⟩ := h i _ (List.getElem?_eq_getElem hi)
    exact ⟨hx, World.cell?_setCell_same' _ _ _ (by rw [h2]; rfl), by simpa using h3⟩
  · rw [List.getElem?_set_ne e] at hj
    obtain ⟨h1, h2, h3⟩ := h j y hj
    exact ⟨h1, by rw [World.cell?_setCell_other _ _ _ _ (fun he => e (by cases he; rfl))]; exact h2, by simpa using h3⟩
theorem RowW.ws (h : RowW w g xs) {n c : Nat} (hn : xs.length = n) (hle : n ≤ 1048576) (hc : n ≤ c) (hcm : c ≤ 9223372036854775807) : WS w (some ⟨g, 0, none⟩) n c xs :=
  ⟨hn, hle, hc, hcm, fun j x hx => by obtain ⟨h1, h2, _⟩ := h j x hx; exact ⟨h1, g, 0, rfl, by simpa using h2⟩⟩
theorem RowW.get (h : RowW w g xs) {i : Nat} (hi : i < xs.length) : ∃ x, w.cell? ⟨g, i, none⟩ = some (.int .u64 x) ∧ w.frozen? ⟨g, i, none⟩ = false :=
  ⟨_, (h i _ (List.getElem?_eq_getElem hi)).2⟩
theorem rowW_of_block {cur : Array Value} (hb : w.heap[g]? = some (.cells cur 46 (0, 0))) (h : ∀ (j : Nat) (x : Int), xs[j]? = some x → U64 x ∧ cur[j]? = some (Value.int .u64 x)) : RowW w g xs := fun j x hx => by
  obtain ⟨h1, h2⟩ := h j x hx
  exact ⟨h1, by simp only [World.cell?, hb]; simpa using h2, by simp [World.frozen?, hb]⟩
end

abbrev zeros (n : Nat) : Array Value := madeCells #[.int .u64 0] n
theorem zeros_list (n : Nat) : (zeros n).toList = List.replicate n (.int .u64 0) := toList_madeCells_one _ n
theorem info46 : (Try.prog.info? 46).map (fun i => (i.zero, i.size, i.bytes)) = some (some (.int .u64 0), 1, 8) := by kernel_rfl
theorem make_words (n : Nat) (hn : n ≤ 1048576) (W : World) : (Instr.makeSlice 22 (.int .i64 (n : Int)) (.int .i64 (n : Int))).run Try.prog W = .ok (.slice (some ⟨W.heap.size, 0, none⟩) n n) (W.alloc (.cells (zeros n) 46)) := by
  obtain ⟨i0, hi, hz0, hz1, hz2⟩ := info_parts info46
  have h := run_make (P := Try.prog) W 22 46 i0 _ Try.underlying22 hi hz0 .i64 .i64 n n (by omega) (by omega) (by rw [hz2]; omega) (by omega)
  simp only [Int.toNat_natCast, hz1, Nat.mul_one] at h
  exact h

theorem WS.vals {w : World} {b o n c : Nat} {xs : List Int} (h : WS w (some ⟨b, o, none⟩) n c xs) : ∀ j v, (xs.map (Value.int .u64))[j]? = some v → w.cell? ((⟨b, o, none⟩ : Addr).add j) = some v := fun j v hv => by
  rw [add_is]
  rw [List.getElem?_map] at hv
  obtain ⟨x, hx, rfl⟩ := Option.map_eq_some_iff.1 hv
  obtain ⟨_, b', o', e, hc⟩ := h.2.2.2.2 j x hx
  cases e; exact hc
theorem WS.addr {w : World} {sl : Option Addr} {n c : Nat} {xs : List Int} (h : WS w sl n c xs) (hn : 0 < n) : ∃ b o, sl = some ⟨b, o, none⟩ := by
  obtain ⟨x, _, _, b, o, e, _⟩ := h.get hn; exact ⟨b, o, e⟩

/-- copy into words that were made, of as many. -/
theorem copy_words {w : World} {sa : Option Addr} {n ca : Nat} {a : List Int} (hA : WS w sa n ca a) :
    ∃ w2, (Builtin.copy_ #[22, 22] 3 #[.slice (some ⟨w.heap.size, 0, none⟩) n n, .slice sa n ca]).run Try.prog (w.alloc (.cells (zeros n) 46)) = .ok (.int .i64 n) w2 ∧ RowW w2 w.heap.size a ∧ Below w.heap.size w w2 := by
  have hb : (w.alloc (.cells (zeros n) 46)).heap[w.heap.size]? = some (.cells (zeros n) 46 (0, 0)) := World.alloc_heap_new w _
  have hu : ∀ (j : Nat) (x : Int), a[j]? = some x → U64 x := fun j x hx => hA.u64 x (List.mem_of_getElem? hx)
  by_cases h0 : n = 0
  · subst h0
    have ha : a = [] := List.eq_nil_of_length_eq_zero hA.len
    subst ha
    exact ⟨_, run_copy_none (P := Try.prog) _ 22 22 3 46 _ _ 0 0 0 ca Try.underlying22 (by kernel_rfl) rfl, fun j x hx => by simp at hx, (Ext.refl w).alloc _⟩
  · obtain ⟨b, o, rfl⟩ := hA.addr (by omega)
    have hl : (a.map (Value.int .u64)).length = n := by rw [List.length_map, hA.len]
    have h := run_copy_row (P := Try.prog) (w.alloc (.cells (zeros n) 46)) 22 22 3 46 w.heap.size 0 n n ⟨b, o, none⟩ n ca (zeros n) 46 (a.map (Value.int .u64)) Try.underlying22 (by kernel_rfl) hb (by rw [hl]; exact (Nat.min_self n).symm)
      (hA.ext ((Ext.refl w).alloc _)).vals (by rw [hl, size_madeCells]; omega) (by intro v hv; obtain ⟨x, _, rfl⟩ := List.mem_map.1 hv; rfl)
    rw [hl] at h
    refine ⟨_, h, ?_, below_setRow ((Ext.refl w).alloc _) (Nat.le_refl _) _⟩
    refine rowW_of_block (setRow_heap _ _ _ _ 46 _ hb) (fun j x hx => ⟨hu j x hx, ?_⟩)
    have hj : j < a.length := (List.getElem?_eq_some_iff.1 hx).1
    have hx2 : a[j] = x := (List.getElem?_eq_some_iff.1 hx).2
    simp [List.getElem?_append, hx2, hj]

/-- What Patch tells. -/
def PatchPost (r : Option (List Int)) (w : World) (n : Nat) (e : Ending) (w' : World) : Prop :=
  Ext w w' ∧ (∀ xs, r = some xs → ∃ sl c, e = .returned (.tuple #[.slice sl n c, .int .i64 0]) ∧ WS w' sl n c xs) ∧ (r = none → e = .returned (.tuple #[.slice none 0 0, .int .i64 1]))
theorem patch_told {r : Option (List Int)} {w w' : World} {n : Nat} {xs : List Int} {sl : Option Addr} {c : Nat} (h : r = some xs) (he : Ext w w') (hw : WS w' sl n c xs) : PatchPost r w n (.returned (.tuple #[.slice sl n c, .int .i64 0])) w' :=
  ⟨he, fun ys hy => by rw [h] at hy; cases hy; exact ⟨sl, c, rfl, hw⟩, fun hn => by rw [h] at hn; cases hn⟩
theorem patch_refused {r : Option (List Int)} {w w' : World} {n : Nat} (h : r = none) (he : Ext w w') : PatchPost r w n (.returned (.tuple #[.slice none 0 0, .int .i64 1])) w' :=
  ⟨he, fun ys hy => (by rw [h] at hy; cases hy), fun _ => rfl⟩

theorem drop_cons {α : Type} {l : List α} {k : Nat} {y : α} (h : l[k]? = some y) : l.drop k = y :: l.drop (k + 1) := by
  obtain ⟨hl, e⟩ := List.getElem?_eq_some_iff.1 h
  rw [← e]; exact List.drop_eq_getElem_cons hl

theorem patch_base (sa sl : Option Addr) (n ca m cl : Nat) (base : Int) (w : World) (h : base < 0 ∨ 1048576 < base) :
    Calls Try.prog 18 #[.slice sa n ca, .int .i64 base, .slice sl m cl] w fun e w' => e = .returned (.tuple #[.slice none 0 0, .int .i64 1]) ∧ Ext w w' := by
  have H := Lib.hid h
  clear h
  go_enter Try.func18, Try.ntmps18
  go_wp2_with (go_at_call 22; refine (may_no _ _ H.out).mono ?_; rintro e w' ⟨rfl, rfl⟩)
  go_ret2
  exact ⟨rfl, Ext.refl w⟩

set_option maxRecDepth 100000 in
set_option maxHeartbeats 4000000 in
theorem patch_any (sa sl : Option Addr) (n ca m cl : Nat) (a : List Int) (l : List Wr) (base : Int) (w : World) (hA : WS w sa n ca a) (hL : RS w sl m cl l) (g0 : 0 ≤ base) (g1 : base ≤ 1048576) :
    Calls Try.prog 18 #[.slice sa n ca, .int .i64 base, .slice sl m cl] w (PatchPost (patchL base a l) w n) := by
  have hn := hA.le
  have hm := hL.le
  have hmk := make_words n hn w
  obtain ⟨w2, hcp, hrw, hE2⟩ := copy_words hA
  have HA := Lib.hid hA
  have HL := Lib.hid hL
  clear hA hL
  go_enter Try.func18, Try.ntmps18
  go_wp2_with (go_at_call 22; refine (may_yes _ _ g0 g1).mono ?_; rintro e w' ⟨rfl, rfl⟩)
  have HR := Lib.hid hrw
  clear hrw hmk hcp
  have hpl : RowKit.Hid (patchL base a l = patchL base a (l.drop 0)) := Lib.hid rfl
  go_wp2_with (fail)
  go_loopw [22] (fun i wr => ∃ (k : Nat) (cur : List Int), k ≤ m ∧ i = .int .i64 k ∧ Below w.heap.size w wr ∧ RowKit.Hid (RowW wr w.heap.size cur ∧ cur.length = n ∧ patchL base a l = patchL base cur (l.drop k))) (fun i _ => m - (intOf i).toNat)
  case atStart => exact ⟨0, a, by omega, rfl, hE2, Lib.hid ⟨HR.out, HA.out.len, hpl.out⟩⟩
  case round =>
    obtain ⟨k, cur, hk, rfl, hE, hin⟩ := hrel
    by_cases hlt : k < m
    · obtain ⟨p, x, hx, hp, hu, b, o, rfl, hc, hd⟩ := (HL.out.ext hE).get hlt
      obtain ⟨p0, p1⟩ := hp
      have HX : RowKit.Hid (l.drop k = (p, x) :: l.drop (k + 1)) := Lib.hid (drop_cons hx)
      clear hx
      by_cases hb : p < base
      · go_wp2_with (fail)
        go_ret2
        exact patch_refused (by rw [hin.out.2.2, HX.out, patch_bad (.inl hb)]) (Ext.alloc hE _)
      · by_cases hb2 : (n : Int) ≤ p - base
        · go_wp2_with (fail)
          go_ret2
          exact patch_refused (by rw [hin.out.2.2, HX.out, patch_bad (.inr (by rw [hin.out.2.1]; exact hb2))]) (Ext.alloc hE _)
        · obtain ⟨j, hj⟩ : ∃ j : Nat, p - base = j := ⟨(p - base).toNat, by omega⟩
          obtain rfl : p = base + j := by omega
          have hjn : j < n := by omega
          obtain ⟨z, hz, hzf⟩ := (hin.out.1.ext (Ext.new wr (.cells #[.int .i64 (base + j), .int .u64 x] 48))).get (i := j) (by rw [hin.out.2.1]; exact hjn)
          have hin2 : RowKit.Hid (RowW ((wr.alloc (.cells #[.int .i64 (base + j), .int .u64 x] 48)).setCell ⟨w.heap.size, j, none⟩ (.int .u64 x)) w.heap.size (cur.set j x) ∧ patchL base a l = patchL base (cur.set j x) (l.drop (k + 1))) :=
            Lib.hid ⟨(hin.out.1.ext (Ext.new wr _)).set (by rw [hin.out.2.1]; exact hjn) hu, by
              rw [hin.out.2.2, HX.out, patch_ok (by rw [hin.out.2.1]; simp; omega)]
              congr 2; simp; omega⟩
          have hs1 : base + (j : Int) - base = j := by omega
          go_wp2_with (fail)
          go_roundw
          case rel => exact ⟨k + 1, cur.set j x, by omega, by go_num, Below.setCell (p := ⟨w.heap.size, j, none⟩) (Ext.alloc hE _) (Nat.le_refl _) _, Lib.hid ⟨hin2.out.1, by rw [List.length_set]; exact hin.out.2.1, hin2.out.2⟩⟩
          case measure => simp [intOf]; omega
    · obtain rfl : k = m := by omega
      go_wp2_with (fail)
      go_ret2
      have h2 := hin.out.2.2
      rw [List.drop_eq_nil_of_le (by rw [HL.out.len]; omega)] at h2
      exact patch_told h2 hE (hin.out.1.ws hin.out.2.1 hn (Nat.le_refl _) (by omega))

end Go.Proofs.Ytdofplmoiljkjaa
