/-
  What slices.SortedFunc of slices.Values returns: the records, in order. Conditions: the records are there; what compares two says which is first; the package's table lies.
-/
import Derived.Test.YtbpgnnogpcppdaaDoorColl
import Derived.Test.YtbpgnnogpcppdaaDoorShelf
namespace Go.Proofs.YtbpgnnogpcppdaaDoor
open Go.RowKit (Below)
open Go.Sort

abbrev Uc := { r : Rc // Ur r }
instance : Inhabited Uc := ⟨⟨(0, 0), by unfold Ur U64; simp⟩⟩
def encU (x : Uc) : List Value := enc2 x.1
theorem encU_len (x : Uc) : (encU x).length = 2 := rfl
theorem encU_one (x : Uc) : ∀ v ∈ encU x, v.oneCell' = true := fun v hv => by
  unfold encU enc2 at hv; simp at hv; rcases hv with rfl | rfl <;> rfl

/-- Records, each with its bounds. -/
def pack : (l : List Rc) → (∀ r ∈ l, Ur r) → List Uc
  | [], _ => []
  | r :: l, h => ⟨r, h r (List.mem_cons_self ..)⟩ :: pack l (fun x hx => h x (List.mem_cons_of_mem _ hx))
theorem pack_map : ∀ (l : List Rc) (h : ∀ r ∈ l, Ur r), (pack l h).map (·.1) = l
  | [], _ => rfl
  | r :: l, h => by rw [pack, List.map_cons, pack_map l]
theorem pack_len (l : List Rc) (h : ∀ r ∈ l, Ur r) : (pack l h).length = l.length := by
  rw [← List.length_map (f := (·.1)), pack_map]

theorem holds_own {w : World} {base g n cap : Nat} {l : List Rc} (h : w.ownsRow base 34 2 (.slice (some ⟨g, 0, none⟩) n cap) n (flat l)) (hl : l.length = n) (hr : ∀ r ∈ l, Ur r) : HoldsK encU 2 w g 0 (pack l hr).toArray ∧ g < w.heap.size := by
  rcases h.2 with ⟨e, _⟩ | ⟨g', cap', cur, e, _, hb, hnc, _, _, ht⟩
  · cases e
  · cases e
    refine ⟨fun j hj => ?_, (Array.getElem?_eq_some_iff.1 hb).1⟩
    have hj2 : j < n * 2 := by rw [size_flatK] at hj; simpa [pack_len, hl] using hj
    have get : cur[j]? = (flat l)[j]? := by
      rw [← ht, List.getElem?_take, if_pos hj2]; simp
    have hk : j / 2 < (pack l hr).length := by rw [pack_len, hl]; omega
    have hkl : j / 2 < l.length := by omega
    have hx : ((pack l hr).toArray[j / 2]!).1 = l[j / 2] := by
      have : (pack l hr)[j / 2].1 = l[j / 2] := by
        have h1 : ((pack l hr).map (·.1))[j / 2]? = l[j / 2]? := by rw [pack_map]
        rw [List.getElem?_map, List.getElem?_eq_getElem hk, List.getElem?_eq_getElem hkl] at h1
        simpa using h1
      rw [getElem!_pos _ _ (by simpa using hk)]
      simpa using this
    refine ⟨?_, by simp [World.frozen?, hb]⟩
    rw [get_flatK _ _ _ _ (by simpa [pack_len, hl] using hj2)]
    simp only [World.cell?, hb, Nat.zero_add, id]
    show cur[j]? = some ((encU (pack l hr).toArray[j / 2]!)[j % 2]!)
    rw [get]
    unfold encU enc2
    rw [hx]
    rcases Nat.mod_two_eq_zero_or_one j with e | e
    · obtain ⟨k, rfl⟩ : ∃ k, j = k * 2 := ⟨j / 2, by omega⟩
      rw [cells_0]
      have h2 : k * 2 / 2 = k := by omega
      have h3 : k * 2 % 2 = 0 := by omega
      simp only [h2, h3]
      rw [List.getElem?_eq_getElem (by omega)]; rfl
    · obtain ⟨k, rfl⟩ : ∃ k, j = k * 2 + 1 := ⟨j / 2, by omega⟩
      rw [cells_1]
      have h2 : (k * 2 + 1) / 2 = k := by omega
      have h3 : (k * 2 + 1) % 2 = 1 := by omega
      simp only [h2, h3]
      rw [List.getElem?_eq_getElem (by omega)]; rfl

theorem grown_sort {w : World} {g m : Nat} {os : Array Obj} (d : Array Uc) : w.grownBy (sortWorldK encU 2 w g 0 m d os) (some g) := by
  unfold sortWorldK putRowK
  refine ⟨rfl, rfl, rfl, by simp, fun k hk hne => ?_⟩
  rw [heap_grow_old _ _ (by simpa using hk)]
  have : g ≠ k := fun e => hne (by rw [e])
  simp [putRow, mapBlock, Sort.ahead, Array.getElem?_modify, this]
theorem tab_grown {w w' : World} {g : Nat} (h : Tab w) (hg : w.grownBy w' (some g)) (h0 : g ≠ 0) : Tab w' := by
  have hs := h.size
  have e : ∀ i, w'.cell? ⟨0, i, none⟩ = w.cell? ⟨0, i, none⟩ := fun i => World.cell?_of_block (hg.block 0 hs (fun e => h0 (by cases e; rfl)))
  exact ⟨(e _).trans h.c0, (e _).trans h.c1, (e _).trans h.c2, (e _).trans h.c3, (e _).trans h.c4, (e _).trans h.c5, (e _).trans h.c6, (e _).trans h.c7, (e _).trans h.c8⟩

theorem qs_holds {w : World} {g n cap : Nat} {d : Array Uc} (h : HoldsK encU 2 w g 0 d) (hd : d.size = n) (hle : n ≤ 1048576) (hc : n ≤ cap) (hcm : cap ≤ 9223372036854775807) : QS w (some ⟨g, 0, none⟩) n cap (d.toList.map (·.1)) := by
  refine ⟨by simp [hd], hle, hc, hcm, fun j y hy => ?_⟩
  rw [List.getElem?_map] at hy
  obtain ⟨x, hx, rfl⟩ := Option.map_eq_some_iff.1 hy
  have hj : j < d.size := by have := (List.getElem?_eq_some_iff.1 hx).1; simpa using this
  have hxe : d[j]! = x := by
    rw [getElem!_pos d j hj]
    have := (List.getElem?_eq_some_iff.1 hx).2
    simpa using this
  have h0 := (h.cell (i := j) (c := 0) hj (by omega)).1
  have h1 := (h.cell (i := j) (c := 1) hj (by omega)).1
  rw [hxe] at h0 h1
  exact ⟨x.2, g, 0, rfl, h0, h1⟩

theorem pair_of_sorted {le : Rc → Rc → Bool} {cf : Rc → Rc → Int} (hle : ∀ x y, ¬ (cf y x < 0) → le x y = true) {d : Array Uc} {n : Nat} (hd : d.size = n)
    (h : SortedIn (ltOf fun x y : Uc => cf x.1 y.1) 0 n d) : (d.toList.map (·.1)).Pairwise fun a b => le a b = true := by
  rw [List.pairwise_map, List.pairwise_iff_getElem]
  intro i j hi hj hij
  have hi' : i < d.size := by simpa using hi
  have hj' : j < d.size := by simpa using hj
  have := h i j (Nat.zero_le _) hij (by omega)
  unfold ltOf at this
  rw [getElem!_pos d i hi', getElem!_pos d j hj'] at this
  exact hle _ _ (by simpa using this)

set_option maxHeartbeats 1000000 in
theorem sorted_any (gf : Nat) (cf : Rc → Rc → Int) (le : Rc → Rc → Bool) (hle : ∀ x y, ¬ (cf y x < 0) → le x y = true) (hO : SWO (ltOf fun x y : Uc => cf x.1 y.1))
    (eg : ∀ args w, (callFunc gf args).run Tryd.prog w = .ok (.enter gf args) w)
    (hcmp : ∀ (x y : Rc) (W : World), Tab W → Ur x → Ur y → Calls Tryd.prog gf #[.agg #[.int .u64 x.1, .int .u64 x.2], .agg #[.int .u64 y.1, .int .u64 y.2]] W fun e w' => e = .returned (.int .i64 (cf x y)) ∧ Gr W w')
    (s : Option Addr) (n c B : Nat) (l : List Rc) (w : World) (hT : Tab w) (hQ : QS w s n c l) (b0 : Boxed w B 32 (.slice s n c)) :
    Calls Tryd.prog 32 #[.func (.func 48) #[] #[.pointer (some ⟨B, 0, none⟩)], .func (.func gf) #[] #[]] w fun e w' => ∃ sl c' ys, e = .returned (.slice sl n c') ∧ QS w' sl n c' ys ∧ (ys.Perm l ∧ ys.Pairwise fun a b => le a b = true) ∧ Fresh w.heap.size sl ∧ Ext w w' := by
  have hA := Lib.hid (collect_any s n c B l w hQ b0)
  have Hle := Lib.hid hle
  have hln := Lib.hid hQ.len
  have hnb := hQ.le
  have hrg := Lib.hid hQ.range
  have HT := Lib.hid hT
  clear hQ b0 hT hle
  go_enter Tryd.func32, Tryd.ntmps32
  go_wp2_with (fail)
  refine hA.out.mono ?_
  rintro e w1 ⟨u, rfl, hrow, hE⟩
  rw [hln.out] at hrow
  have hsz1 := hE.size
  have HT1 := Lib.hid (HT.out.ext hE)
  by_cases h0 : n = 0
  · subst h0
    obtain ⟨sl, c', rfl⟩ := own_form hrow
    have hl0 : l = [] := List.eq_nil_of_length_eq_zero hln.out
    subst hl0
    have hF := Lib.hid (own_fresh hrow)
    have hcc : RowKit.Hid (c' ≤ 9223372036854775807) := Lib.hid (by
      rcases hrow.2 with ⟨e, _⟩ | ⟨g, cap, cur, e, _, _, _, hcm, _⟩
      · cases e; omega
      · cases e; unfold maxLen at hcm; omega)
    have hcon := fun fv W => AnyF.slices_SortFunc_none Tryd.sortQ sl c' fv W
    change ∀ fv W, Calls Tryd.prog 47 _ _ _ at hcon
    have Hcon := Lib.hid hcon
    clear hcon
    go_wp2_with (fail)
    refine (Hcon.out _ _).mono ?_
    rintro e w2 ⟨rfl, rfl⟩
    go_wp2_with (fail)
    go_ret
    exact ⟨sl, c', [], rfl, QS.empty _ _ _ hcc.out, ⟨List.Perm.refl _, List.Pairwise.nil⟩, hF.out, hE⟩
  · rcases hrow.2 with ⟨_, hz⟩ | ⟨g, cap, cur, rfl, hgb, hb, hnc, hcm, _, _⟩
    · omega
    obtain ⟨hH, hblk⟩ := holds_own hrow hln.out hrg.out
    obtain ⟨d, hd⟩ : ∃ d, (pack l hrg.out).toArray = d := ⟨_, rfl⟩
    have hdn : d.size = n := by rw [← hd]; simp [pack_len, hln.out]
    have hdl : RowKit.Hid (d.toList.map (·.1) = l) := Lib.hid (by rw [← hd]; simpa using pack_map l hrg.out)
    rw [hd] at hH
    have hg0 : g ≠ 0 := by have := HT.out.size; omega
    have hcl : CmpLays Tryd.prog gf #[] encU 2 (fun x y : Uc => cf x.1 y.1) g 0 d.size w1 := fun m os dk _ x y =>
      hcmp x.1 y.1 _ (tab_grown HT1.out (grown_sort dk) hg0) x.2 y.2
    have hcon := AnyQ.slices_SortFunc Tryd.sortQ 2 Tryd.isAgg34 Tryd.sizeOf34 encU encU_len encU_one (fun x y : Uc => cf x.1 y.1) hO gf #[] g 0 cap d w1 eg hcl hH hblk (by omega)
    change Calls Tryd.prog 47 _ _ _ at hcon
    rw [hdn] at hcon
    have Hcon := Lib.hid hcon
    have HH := Lib.hid hH
    have Hdn := Lib.hid hdn
    have Hcap : RowKit.Hid (cap ≤ 9223372036854775807) := Lib.hid (by unfold maxLen at hcm; omega)
    clear hcon hcl hH hd hrow hb hdn hcm
    go_wp2_with (fail)
    refine Hcon.out.mono ?_
    rintro e w2 ⟨rfl, d', m, os, hp, hs, hw2⟩
    have hd'n : d'.size = n := by rw [hp.1, Hdn.out]
    have hH2 : HoldsK encU 2 w2 g 0 d' := by rw [hw2]; exact holdsK_sortWorldK_c encU 2 w1 g 0 d d' m os HH.out hblk (by rw [hp.1])
    have hgr : w1.grownBy w2 (some g) := by rw [hw2]; exact grown_sort d'
    have hfin : RowKit.Hid (QS w2 (some ⟨g, 0, none⟩) n cap (d'.toList.map (·.1)) ∧ ((d'.toList.map (·.1)).Perm l ∧ (d'.toList.map (·.1)).Pairwise fun a b => le a b = true)) := Lib.hid ⟨qs_holds hH2 hd'n hnb hnc Hcap.out, by
      have h1 := hp.2.2
      rw [show n = d.size from Hdn.out.symm] at h1
      have h2 : (d.extract 0 d.size).toList = d.toList := by simp
      have h3 : (d'.extract 0 d.size).toList = d'.toList := by rw [← hp.1]; simp
      rw [h2, h3] at h1
      rw [← hdl.out]
      exact h1.map _, pair_of_sorted (fun x y h => Hle.out x y (by omega)) hd'n hs⟩
    have hEf : Ext w w2 := Ext.grown hE hgr (fun k e => by cases e; exact hgb)
    clear hH2 hgr hs hp hw2
    go_wp2_with (fail)
    go_ret
    exact ⟨_, cap, _, rfl, hfin.out.1, hfin.out.2, fun b o e => by cases e; exact hgb, hEf⟩

end Go.Proofs.YtbpgnnogpcppdaaDoor
