/-
  Parts of a proof, one behind the other: PrbShelf, PrbSorts, PrbSought, PrbBridge, PrbLay. Each says its own conditions.
-/
import Derived.Test.YtmonkcekkhfafaaGreatDoorM21
import Derived.Shelf.SlSortCmp.NoneTotal
import Derived.Ground.SlsfProg
import Derived.Test.YtmonkcekkhfafaaGreatDoorProg
import Derived.RangeFuncNested
import Derived.Deep.RegionHeld3
import Derived.TacticsIn

/- PrbShelf:
  Where the library's own contract of slices.SortFunc lies in this program: the numbers of its functions and types. No condition.
-/
namespace Go.Proofs
open Go.Shelf
def Tryz.sortQ_ren : Go.Shelf.Ren := ⟨fun | 6 => 91 | 15 => 118 | 14 => 117 | 28 => 142 | 29 => 143 | 20 => 134 | 21 => 135 | 22 => 136 | 23 => 137 | 24 => 138 | 25 => 139 | 26 => 140 | 27 => 141 | 46 => 145 | 47 => 146 | 48 => 147 | 49 => 148 | 50 => 149 | 57 => 151 | n => n, fun | 22 => 55 | 24 => 80 | 25 => 85 | 3 => 3 | 39 => 136 | 0 => 0 | 53 => 180 | 55 => 26 | 4 => 4 | 46 => 174 | 45 => 173 | 50 => 52 | 5 => 5 | 9 => 9 | 66 => 181 | 70 => 185 | 76 => 187 | 77 => 188 | n => n, fun | n => n⟩
theorem Tryz.sortQ : Go.Proofs.SlLaysF0.n6 Tryz.prog Tryz.sortQ_ren := {
  mixed := by kernel_rfl
  f6 := ⟨Tryz.f91.name, by decide, Tryz.func91.trans (congrArg some (by kernel_rfl))⟩
  f14 := ⟨Tryz.f117.name, by decide, Tryz.func117.trans (congrArg some (by kernel_rfl))⟩
  f15 := Tryz.func118.trans (congrArg some (by kernel_rfl))
  f20 := ⟨Tryz.f134.name, by decide, Tryz.func134.trans (congrArg some (by kernel_rfl))⟩
  f21 := ⟨Tryz.f135.name, by decide, Tryz.func135.trans (congrArg some (by kernel_rfl))⟩
  f22 := ⟨Tryz.f136.name, by decide, Tryz.func136.trans (congrArg some (by kernel_rfl))⟩
  f23 := ⟨Tryz.f137.name, by decide, Tryz.func137.trans (congrArg some (by kernel_rfl))⟩
  f24 := ⟨Tryz.f138.name, by decide, Tryz.func138.trans (congrArg some (by kernel_rfl))⟩
  f25 := ⟨Tryz.f139.name, by decide, Tryz.func139.trans (congrArg some (by kernel_rfl))⟩
  f26 := ⟨Tryz.f140.name, by decide, Tryz.func140.trans (congrArg some (by kernel_rfl))⟩
  f27 := ⟨Tryz.f141.name, by decide, Tryz.func141.trans (congrArg some (by kernel_rfl))⟩
  f28 := Tryz.func142.trans (congrArg some (by kernel_rfl))
  f29 := Tryz.func143.trans (congrArg some (by kernel_rfl))
  f46 := ⟨Tryz.f145.name, by decide, Tryz.func145.trans (congrArg some (by kernel_rfl))⟩
  f47 := Tryz.func146.trans (congrArg some (by kernel_rfl))
  f48 := Tryz.func147.trans (congrArg some (by kernel_rfl))
  f49 := ⟨Tryz.f148.name, by decide, Tryz.func148.trans (congrArg some (by kernel_rfl))⟩
  f50 := ⟨Tryz.f149.name, by decide, Tryz.func149.trans (congrArg some (by kernel_rfl))⟩
  f57 := ⟨Tryz.f151.name, by decide, Tryz.func151.trans (congrArg some (by kernel_rfl))⟩
  t0 := Tryz.underlying0
  a0 := Tryz.isAgg0
  z0 := Tryz.sizeOf0
  v0 := Tryz.zeroValue0
  t3 := Tryz.underlying3
  a3 := Tryz.isAgg3
  z3 := Tryz.sizeOf3
  v3 := Tryz.zeroValue3
  t4 := Tryz.underlying4
  a4 := Tryz.isAgg4
  z4 := Tryz.sizeOf4
  v4 := Tryz.zeroValue4
  t5 := Tryz.underlying5
  a5 := Tryz.isAgg5
  z5 := Tryz.sizeOf5
  v5 := Tryz.zeroValue5
  t9 := Tryz.underlying9
  a9 := Tryz.isAgg9
  z9 := Tryz.sizeOf9
  v9 := Tryz.zeroValue9
  t22 := Tryz.underlying55
  a22 := Tryz.isAgg55
  z22 := Tryz.sizeOf55
  v22 := Tryz.zeroValue55
  t25 := Tryz.underlying85
  a25 := Tryz.isAgg85
  z25 := Tryz.sizeOf85
  v25 := Tryz.zeroValue85
  t39 := Tryz.underlying136
  a39 := Tryz.isAgg136
  z39 := Tryz.sizeOf136
  v39 := Tryz.zeroValue136
  t45 := Tryz.underlying173
  a45 := Tryz.isAgg173
  z45 := Tryz.sizeOf173
  v45 := Tryz.zeroValue173
  t46 := Tryz.underlying174
  a46 := Tryz.isAgg174
  z46 := Tryz.sizeOf174
  v46 := Tryz.zeroValue174
  t50 := Tryz.underlying52
  a50 := Tryz.isAgg52
  z50 := Tryz.sizeOf52
  v50 := Tryz.zeroValue52
  t53 := Tryz.underlying180
  a53 := Tryz.isAgg180
  z53 := Tryz.sizeOf180
  v53 := Tryz.zeroValue180
  t55 := Tryz.underlying26
  a55 := Tryz.isAgg26
  z55 := Tryz.sizeOf26
  v55 := Tryz.zeroValue26
  t66 := Tryz.underlying181
  a66 := Tryz.isAgg181
  z66 := Tryz.sizeOf181
  v66 := Tryz.zeroValue181
  t70 := Tryz.underlying185
  a70 := Tryz.isAgg185
  z70 := Tryz.sizeOf185
  v70 := Tryz.zeroValue185
  t76 := Tryz.underlying187
  a76 := Tryz.isAgg187
  z76 := Tryz.sizeOf187
  v76 := Tryz.zeroValue187
  t77 := Tryz.underlying188
  a77 := Tryz.isAgg188
  z77 := Tryz.sizeOf188
  v77 := Tryz.zeroValue188 }
end Go.Proofs

/- PrbSorts:
  What slices.SortedFunc of slices.Values returns: the records, in order. Conditions: the records are there; what compares two says which is first; the package's table lies.
-/
namespace Go.Proofs.YtmonkcekkhfafaaGreatDoor.Prb
open Go.RowKit (Below)
open Go.Sort

abbrev Uc := { r : Rc // Ur r }
instance : Inhabited Uc := ⟨⟨(0, 0), by unfold Ur U64; simp⟩⟩
def encU (x : Uc) : List Value := enc2 x.1
theorem encU_len (x : Uc) : (encU x).length = 2 := rfl
theorem encU_one (x : Uc) : ∀ v ∈ encU x, v.oneCell' = true := fun v hv => by
  unfold encU enc2 at hv; simp at hv; rcases hv with rfl | rfl <;> rfl

/-- Records, each with its bounds. -/
def pack : (l : List Rc) → (∀ r ∈ l, Ur r) → List Uc
  | [], _ => []
  | r :: l, h => ⟨r, h r (List.mem_cons_self ..)⟩ :: pack l (fun x hx => h x (List.mem_cons_of_mem _ hx))
theorem pack_map : ∀ (l : List Rc) (h : ∀ r ∈ l, Ur r), (pack l h).map (·.1) = l
  | [], _ => rfl
  | r :: l, h => by rw [pack, List.map_cons, pack_map l]
theorem pack_len (l : List Rc) (h : ∀ r ∈ l, Ur r) : (pack l h).length = l.length := by
  rw [← List.length_map (f := (·.1)), pack_map]

theorem holds_own {w : World} {base g n cap : Nat} {l : List Rc} (h : w.ownsRow base 80 2 (.slice (some ⟨g, 0, none⟩) n cap) n (flat l)) (hl : l.length = n) (hr : ∀ r ∈ l, Ur r) : HoldsK encU 2 w g 0 (pack l hr).toArray ∧ g < w.heap.size := by
  rcases h.2 with ⟨e, _⟩ | ⟨g', cap', cur, e, _, hb, hnc, _, _, ht⟩
  · cases e
  · cases e
    refine ⟨fun j hj => ?_, (Array.getElem?_eq_some_iff.1 hb).1⟩
    have hj2 : j < n * 2 := by rw [size_flatK] at hj; simpa [pack_len, hl] using hj
    have get : cur[j]? = (flat l)[j]? := by
      rw [← ht, List.getElem?_take, if_pos hj2]; simp
    have hk : j / 2 < (pack l hr).length := by rw [pack_len, hl]; omega
    have hkl : j / 2 < l.length := by omega
    have hx : ((pack l hr).toArray[j / 2]!).1 = l[j / 2] := by
      have : (pack l hr)[j / 2].1 = l[j / 2] := by
        have h1 : ((pack l hr).map (·.1))[j / 2]? = l[j / 2]? := by rw [pack_map]
        rw [List.getElem?_map, List.getElem?_eq_getElem hk, List.getElem?_eq_getElem hkl] at h1
        simpa using h1
      rw [getElem!_pos _ _ (by simpa using hk)]
      simpa using this
    refine ⟨?_, by simp [World.frozen?, hb]⟩
    rw [get_flatK _ _ _ _ (by simpa [pack_len, hl] using hj2)]
    simp only [World.cell?, hb, Nat.zero_add, id]
    show cur[j]? = some ((encU (pack l hr).toArray[j / 2]!)[j % 2]!)
    rw [get]
    unfold encU enc2
    rw [hx]
    rcases Nat.mod_two_eq_zero_or_one j with e | e
    · obtain ⟨k, rfl⟩ : ∃ k, j = k * 2 := ⟨j / 2, by omega⟩
      rw [cells_0]
      have h2 : k * 2 / 2 = k := by omega
      have h3 : k * 2 % 2 = 0 := by omega
      simp only [h2, h3]
      rw [List.getElem?_eq_getElem (by omega)]; rfl
    · obtain ⟨k, rfl⟩ : ∃ k, j = k * 2 + 1 := ⟨j / 2, by omega⟩
      rw [cells_1]
      have h2 : (k * 2 + 1) / 2 = k := by omega
      have h3 : (k * 2 + 1) % 2 = 1 := by omega
      simp only [h2, h3]
      rw [List.getElem?_eq_getElem (by omega)]; rfl

theorem grown_sort {w : World} {g m : Nat} {os : Array Obj} (d : Array Uc) : w.grownBy (sortWorldK encU 2 w g 0 m d os) (some g) := by
  unfold sortWorldK putRowK
  refine ⟨rfl, rfl, rfl, by simp, fun k hk hne => ?_⟩
  rw [heap_grow_old _ _ (by simpa using hk)]
  have : g ≠ k := fun e => hne (by rw [e])
  simp [putRow, mapBlock, Sort.ahead, Array.getElem?_modify, this]
theorem tab_grown {w w' : World} {g : Nat} (h : Tab w) (hg : w.grownBy w' (some g)) (h0 : g ≠ 1) : Tab w' := by
  have hs := h.size
  have e : ∀ i, w'.cell? ⟨1, i, none⟩ = w.cell? ⟨1, i, none⟩ := fun i => World.cell?_of_block (hg.block 1 hs (fun e => h0 (by cases e; rfl)))
  exact ⟨(e _).trans h.c0, (e _).trans h.c1, (e _).trans h.c2, (e _).trans h.c3, (e _).trans h.c4, (e _).trans h.c5, (e _).trans h.c6, (e _).trans h.c7, (e _).trans h.c8⟩

theorem qs_holds {w : World} {g n cap : Nat} {d : Array Uc} (h : HoldsK encU 2 w g 0 d) (hd : d.size = n) (hle : n ≤ 1048576) (hc : n ≤ cap) (hcm : cap ≤ 9223372036854775807) : QS w (some ⟨g, 0, none⟩) n cap (d.toList.map (·.1)) := by
  refine ⟨by simp [hd], hle, hc, hcm, fun j y hy => ?_⟩
  rw [List.getElem?_map] at hy
  obtain ⟨x, hx, rfl⟩ := Option.map_eq_some_iff.1 hy
  have hj : j < d.size := by have := (List.getElem?_eq_some_iff.1 hx).1; simpa using this
  have hxe : d[j]! = x := by
    rw [getElem!_pos d j hj]
    have := (List.getElem?_eq_some_iff.1 hx).2
    simpa using this
  have h0 := (h.cell (i := j) (c := 0) hj (by omega)).1
  have h1 := (h.cell (i := j) (c := 1) hj (by omega)).1
  rw [hxe] at h0 h1
  exact ⟨x.2, g, 0, rfl, h0, h1⟩

theorem pair_of_sorted {le : Rc → Rc → Bool} {cf : Rc → Rc → Int} (hle : ∀ x y, ¬ (cf y x < 0) → le x y = true) {d : Array Uc} {n : Nat} (hd : d.size = n)
    (h : SortedIn (ltOf fun x y : Uc => cf x.1 y.1) 0 n d) : (d.toList.map (·.1)).Pairwise fun a b => le a b = true := by
  rw [List.pairwise_map, List.pairwise_iff_getElem]
  intro i j hi hj hij
  have hi' : i < d.size := by simpa using hi
  have hj' : j < d.size := by simpa using hj
  have := h i j (Nat.zero_le _) hij (by omega)
  unfold ltOf at this
  rw [getElem!_pos d i hi', getElem!_pos d j hj'] at this
  exact hle _ _ (by simpa using this)

set_option maxHeartbeats 1000000 in
theorem sorted_any (gf : Nat) (cf : Rc → Rc → Int) (le : Rc → Rc → Bool) (hle : ∀ x y, ¬ (cf y x < 0) → le x y = true) (hO : SWO (ltOf fun x y : Uc => cf x.1 y.1))
    (eg : ∀ args w, (callFunc gf args).run Tryz.prog w = .ok (.enter gf args) w)
    (hcmp : ∀ (x y : Rc) (W : World), Tab W → Ur x → Ur y → Calls Tryz.prog gf #[.agg #[.int .u64 x.1, .int .u64 x.2], .agg #[.int .u64 y.1, .int .u64 y.2]] W fun e w' => e = .returned (.int .i64 (cf x y)) ∧ Gr W w')
    (s : Option Addr) (n c B : Nat) (l : List Rc) (w : World) (hT : Tab w) (hQ : QS w s n c l) (b0 : Boxed w B 55 (.slice s n c)) :
    Calls Tryz.prog 49 #[.func (.func 92) #[] #[.pointer (some ⟨B, 0, none⟩)], .func (.func gf) #[] #[]] w fun e w' => ∃ sl c' ys, e = .returned (.slice sl n c') ∧ QS w' sl n c' ys ∧ (ys.Perm l ∧ ys.Pairwise fun a b => le a b = true) ∧ Fresh w.heap.size sl ∧ Ext w w' := by
  have hA := Lib.hid (collect_any s n c B l w hQ b0)
  have Hle := Lib.hid hle
  have hln := Lib.hid hQ.len
  have hnb := hQ.le
  have hrg := Lib.hid hQ.range
  have HT := Lib.hid hT
  clear hQ b0 hT hle
  go_enter Tryz.func49, Tryz.ntmps49
  go_wp2_with (fail)
  refine hA.out.mono ?_
  rintro e w1 ⟨u, rfl, hrow, hE⟩
  rw [hln.out] at hrow
  have hsz1 := hE.size
  have HT1 := Lib.hid (HT.out.ext hE)
  by_cases h0 : n = 0
  · subst h0
    obtain ⟨sl, c', rfl⟩ := own_form hrow
    have hl0 : l = [] := List.eq_nil_of_length_eq_zero hln.out
    subst hl0
    have hF := Lib.hid (own_fresh hrow)
    have hcc : RowKit.Hid (c' ≤ 9223372036854775807) := Lib.hid (by
      rcases hrow.2 with ⟨e, _⟩ | ⟨g, cap, cur, e, _, _, _, hcm, _⟩
      · cases e; omega
      · cases e; unfold maxLen at hcm; omega)
    have hcon := fun fv W => AnyF.slices_SortFunc_none Tryz.sortQ sl c' fv W
    change ∀ fv W, Calls Tryz.prog 91 _ _ _ at hcon
    have Hcon := Lib.hid hcon
    clear hcon
    go_wp2_with (fail)
    refine (Hcon.out _ _).mono ?_
    rintro e w2 ⟨rfl, rfl⟩
    go_wp2_with (fail)
    go_ret
    exact ⟨sl, c', [], rfl, QS.empty _ _ _ hcc.out, ⟨List.Perm.refl _, List.Pairwise.nil⟩, hF.out, hE⟩
  · rcases hrow.2 with ⟨_, hz⟩ | ⟨g, cap, cur, rfl, hgb, hb, hnc, hcm, _, _⟩
    · omega
    obtain ⟨hH, hblk⟩ := holds_own hrow hln.out hrg.out
    obtain ⟨d, hd⟩ : ∃ d, (pack l hrg.out).toArray = d := ⟨_, rfl⟩
    have hdn : d.size = n := by rw [← hd]; simp [pack_len, hln.out]
    have hdl : RowKit.Hid (d.toList.map (·.1) = l) := Lib.hid (by rw [← hd]; simpa using pack_map l hrg.out)
    rw [hd] at hH
    have hg0 : g ≠ 1 := by have := HT.out.size; omega
    have hcl : CmpLays Tryz.prog gf #[] encU 2 (fun x y : Uc => cf x.1 y.1) g 0 d.size w1 := fun m os dk _ x y =>
      hcmp x.1 y.1 _ (tab_grown HT1.out (grown_sort dk) hg0) x.2 y.2
    have hcon := AnyQ.slices_SortFunc Tryz.sortQ 2 Tryz.isAgg80 Tryz.sizeOf80 encU encU_len encU_one (fun x y : Uc => cf x.1 y.1) hO gf #[] g 0 cap d w1 eg hcl hH hblk (by omega)
    change Calls Tryz.prog 91 _ _ _ at hcon
    rw [hdn] at hcon
    have Hcon := Lib.hid hcon
    have HH := Lib.hid hH
    have Hdn := Lib.hid hdn
    have Hcap : RowKit.Hid (cap ≤ 9223372036854775807) := Lib.hid (by unfold maxLen at hcm; omega)
    clear hcon hcl hH hd hrow hb hdn hcm
    go_wp2_with (fail)
    refine Hcon.out.mono ?_
    rintro e w2 ⟨rfl, d', m, os, hp, hs, hw2⟩
    have hd'n : d'.size = n := by rw [hp.1, Hdn.out]
    have hH2 : HoldsK encU 2 w2 g 0 d' := by rw [hw2]; exact holdsK_sortWorldK_c encU 2 w1 g 0 d d' m os HH.out hblk (by rw [hp.1])
    have hgr : w1.grownBy w2 (some g) := by rw [hw2]; exact grown_sort d'
    have hfin : RowKit.Hid (QS w2 (some ⟨g, 0, none⟩) n cap (d'.toList.map (·.1)) ∧ ((d'.toList.map (·.1)).Perm l ∧ (d'.toList.map (·.1)).Pairwise fun a b => le a b = true)) := Lib.hid ⟨qs_holds hH2 hd'n hnb hnc Hcap.out, by
      have h1 := hp.2.2
      rw [show n = d.size from Hdn.out.symm] at h1
      have h2 : (d.extract 0 d.size).toList = d.toList := by simp
      have h3 : (d'.extract 0 d.size).toList = d'.toList := by rw [← hp.1]; simp
      rw [h2, h3] at h1
      rw [← hdl.out]
      exact h1.map _, pair_of_sorted (fun x y h => Hle.out x y (by omega)) hd'n hs⟩
    have hEf : Ext w w2 := Ext.grown hE hgr (fun k e => by cases e; exact hgb)
    clear hH2 hgr hs hp hw2
    go_wp2_with (fail)
    go_ret
    exact ⟨_, cap, _, rfl, hfin.out.1, hfin.out.2, fun b o e => by cases e; exact hgb, hEf⟩

end Go.Proofs.YtmonkcekkhfafaaGreatDoor.Prb

/- PrbSought:
  What sought returns: the slot of a table that has the key. Conditions: the words are there, those of a table; the key is not 0; the package's table lies.
-/
namespace Go.Proofs.YtmonkcekkhfafaaGreatDoor.Prb
open Go.RowKit Go.Shelf

theorem way_get {f n k i : Nat} (h : i < k) : (way f n k)[i]? = some ((f + i) % n) := by
  unfold way; rw [List.getElem?_map, List.getElem?_range h]; rfl
theorem plc_get {n f k : Nat} {pre : List (At n)} (h : plc pre = way f n k) {i : Nat} (hi : i < k) : ∃ x ∈ pre, x.1 = (f + i) % n := by
  have := way_get (f := f) (n := n) hi
  rw [← h, List.getElem?_map] at this
  obtain ⟨x, hx, e⟩ := Option.map_eq_some_iff.1 this
  exact ⟨x, List.mem_of_getElem? hx, e⟩
theorem plc_last {n f k : Nat} {pre : List (At n)} {x : At n} (h : plc (pre ++ [x]) = way f n (k + 1)) : plc pre = way f n k ∧ x.1 = (f + k) % n := by
  rw [way_succ, plc, List.map_append, List.map_singleton] at h
  have := List.append_inj' h rfl
  exact ⟨this.1, by simpa using this.2⟩

/-- How a search has ended. -/
def Ended (t : List Rc) (k : Int) {n : Nat} (cd : Code) (pre : List (At n)) (a : Int) (b : Bool) : Prop :=
  (cd = .ret ∧ b = true ∧ ∃ x : At n, (x.1 : Int) = a ∧ (at' t x.1).1 = k) ∨ (cd = .exit 0 ∧ a = 0 ∧ b = false ∧ ∃ pr x, pre = pr ++ [x] ∧ at' t x.1 = (0, 0) ∧ ∀ y ∈ pr, (at' t y.1).1 ≠ k)
end Go.Proofs.YtmonkcekkhfafaaGreatDoor.Prb

/- PrbBridge:
  A region that draws its order of evaluation, in a round of a loop over a function: what the law on regions outside of rounds shows of it serves there, too. Conditions: no operation of it is a defer statement; the post lets nobody out.
-/
namespace Go.Proofs.YtmonkcekkhfafaaGreatDoor.Prb
open Go.RowKit

theorem wpOps_in {l₀ n : Nat} {P : Program} {ops : Array Oper} {Q : Exit → Act → World → Prop} (hd : ∀ (i : Nat) (o : Oper), ops[i]? = some o → ∀ c, o.op ≠ .defer c) (hQ : ¬ LetsOut Q) :
    ∀ (l : List Nat) (a : Act) (w : World), wpOps P ops Q l a w → wpOpsIn (Fence.wide.inRound l₀) n P ops Q l a w := by
  intro l
  induction l with
  | nil => exact fun _ _ h => h
  | cons i rest ih =>
    intro a w h
    simp only [wpOps] at h
    simp only [wpOpsIn]
    cases ho : ops[i]? with
    | none => simp only [ho] at h ⊢; exact ih a w h
    | some o =>
      simp only [ho] at h ⊢
      by_cases hw : Region.wanted o (yielded ops a.tmps) = true
      · simp only [hw, if_true] at h ⊢
        rcases h with h | ⟨_, h⟩
        · refine ⟨fun _ _ => trivial, ?_⟩
          rw [show (Fence.wide.inRound l₀).round = some l₀ from rfl, Oper.semAt_some _ _ _ (hd i o ho)]
          unfold Oper.wp at h
          generalize (execOp a.eval o).run P w = r at *
          cases r with
          | ok x w' =>
            cases x <;> simp only [Oper.upon, Oper.uponIn] at h ⊢
            case value => exact ih _ _ h
            case skip => exact ih _ _ h
            case defer => exact ih _ _ h
            case enter f args =>
              refine ⟨fun h => (by cases h), CallsIn.inRound l₀ (callsIn_wide.2 (Calls.mono h fun e w'' he => ?_))⟩
              cases e with
              | returned v => exact ih _ _ he
              | panicked c => exact he
              | outgrown => exact he
            case row f args =>
              refine ⟨fun h => (by cases h), fun c cs _ => ?_⟩
              obtain ⟨v, w'', hr, hs⟩ := h c cs
              exact ⟨v, w'', ih _ _ hr, stepsIn_wide.2 hs⟩
          | halt x w' => cases x <;> simp only [Oper.upon, Oper.uponIn] at h ⊢ <;> exact h
        · exact absurd h hQ
      · simp only [hw, if_false, Bool.false_eq_true] at h ⊢
        exact ⟨fun _ _ => trivial, ih _ _ h⟩

/-- The law: S holds behind each operation, as outside of rounds. -/
theorem wpIn_region_held {l₀ n : Nat} {P : Program} {ops : Array Oper} {Q : Exit → Act → World → Prop} {S : World → Prop} {id : Nat} {a : Act} {w : World} (hm : P.follows .mixedOrders = true)
    (hd : (ops.all fun o => match o.op with | .defer _ => false | _ => true) = true) (hQ : ¬ LetsOut Q) (hS : S w.drew)
    (h : S w.drew → wpAnyH P .any ops Q S ops.size (Array.replicate ops.size false) a w.drew) : (Code.region id ops true).wpIn (Fence.wide.inRound l₀) n P Q a w :=
  wpIn_region_draw fun t => by
    simp only [Region.schedule, hm, Bool.true_or, if_true]
    refine wpOps_in (fun i o ho c hc => ?_) hQ _ _ _ (wpAny_sound ops.size t _ a _ (wpAny_of_held _ _ _ _ (h hS)))
    obtain ⟨hi, rfl⟩ := Array.getElem?_eq_some_iff.1 ho
    have := Array.all_eq_true.1 hd i hi
    rw [hc] at this
    cases this

end Go.Proofs.YtmonkcekkhfafaaGreatDoor.Prb

/- PrbLay:
  What lay does: it writes a record into the first empty slot from its own one on. Conditions: the words are there, in a block of their own; the package's table lies.
-/
namespace Go.Proofs.YtmonkcekkhfafaaGreatDoor.Prb
open Go.RowKit Go.Shelf

theorem grown_then {w W W' : World} {g : Nat} {row : Option Nat} (h : w.grownBy W (some g)) (h2 : W.grownBy W' row) (hr : ∀ k, row = some k → w.heap.size ≤ k ∨ k = g) : w.grownBy W' (some g) :=
  ⟨h2.os.trans h.os, h2.tape.trans h.tape, h2.output.trans h.output, Nat.le_trans h.size h2.size, fun k hk hne => by
    rw [h2.block k (Nat.lt_of_lt_of_le hk h.size) (fun e => ?_), h.block k hk hne]
    rcases hr k e.symm with h3 | h3
    · omega
    · exact hne (by rw [h3])⟩
theorem below_grown {w W : World} (g : Nat) (h : Below w.heap.size w W) : w.grownBy W (some g) := ⟨h.os, h.tape, h.output, h.size, fun k hk _ => h.block k hk⟩
theorem grown_set {w : World} (g i : Nat) (v : Value) : w.grownBy (w.setCell ⟨g, i, none⟩ v) (some g) := by
  refine ⟨rfl, rfl, rfl, by simp [World.setCell], fun k hk hne => ?_⟩
  have : g ≠ k := fun e => hne (by rw [e])
  simp [World.setCell, Array.getElem?_modify, this]
theorem rowW_own {β : Type} (g Bs : Nat) (f : β → List Int) : OwnFrom Bs (fun (s : β) W => RowW W g (f s)) := fun s X Y row hs hg hr j x hx => by
  obtain ⟨h1, h2, h3⟩ := hs j x hx
  exact ⟨h1, cell_kept h2 hg (fun r e => (hr r e).2), (frozen_kept h2 hg (fun r e => (hr r e).2)).trans h3⟩
/-- A record was written into the first empty slot. -/
def Laid (g v : Nat) (w : World) (t : List Rc) (r : Rc) {n : Nat} (cd : Code) (pre : List (At n)) (W : World) : Prop :=
  cd = .ret ∧ ∃ (pr : List (At n)) (x : At n), pre = pr ++ [x] ∧ at' t x.1 = (0, 0) ∧ (∀ y ∈ pr, at' t y.1 ≠ (0, 0)) ∧ RowW W g (flatW v (t.set x.1 r)) ∧ w.grownBy W (some g)
theorem laid_own {n : Nat} (g v : Nat) (w : World) (Bs : Nat) (hB : w.heap.size ≤ Bs) (t : List Rc) (r : Rc) (cd : Code) : OwnFrom Bs (fun (pre : List (At n)) W => Laid g v w t r cd pre W) := by
  rintro s X Y row ⟨h0, pr, x, h1, h2, h3, h4, h5⟩ hg hr
  exact ⟨h0, pr, x, h1, h2, h3, rowW_own (β := Unit) g Bs (fun _ => flatW v (t.set x.1 r)) () X Y row h4 hg hr, grown_then h5 hg (fun k e => .inl (Nat.le_trans hB (hr k e).1))⟩
theorem cell_far {w : World} {b g i o : Nat} {v : Value} (h : g ≠ b) : (w.setCell ⟨g, i, none⟩ v).cell? ⟨b, o, none⟩ = w.cell? ⟨b, o, none⟩ :=
  World.cell?_setCell_other _ _ _ _ (fun e => by have := congrArg Addr.block e; simp at this; exact h (by first | exact this | exact this.symm))
theorem copy_in1 {w : World} {g B P C1 : Nat} {xs : List Int} {p : Int} (hR : RowW w g xs) (hP : P < xs.length) (h0 : w.cell? ⟨B, 0, none⟩ = some (.int .u64 p)) :
    (Builtin.copy_ #[27, 27] 3 #[.slice (some ⟨g, P, none⟩) 1 C1, .slice (some ⟨B, 0, none⟩) 2 2]).run Tryz.prog w = .ok (.int .i64 1) (w.setCell ⟨g, P, none⟩ (.int .u64 p)) := by
  obtain ⟨z, hz, hf⟩ := hR.get hP
  exact run_copy_cells (P := Tryz.prog) w 27 27 3 26 g P 1 C1 ⟨B, 0, none⟩ 2 2 [.int .u64 p] Tryz.underlying27 size24 rfl
    (fun j v hv => by
      match j, hv with
      | 0, hv => simp at hv; subst hv; rw [add_is]; exact h0
      | j + 1, hv => simp at hv)
    (fun j hj => by simp at hj; subst hj; rw [Nat.add_zero, hz]; rfl) (fun j hj => by simp at hj; subst hj; rw [Nat.add_zero]; exact hf) (by intro v hv; simp at hv; subst hv; rfl)
theorem copy_in2 {w : World} {g B P C1 : Nat} {xs : List Int} {p q : Int} (hR : RowW w g xs) (hP : P + 1 < xs.length) (h0 : w.cell? ⟨B, 0, none⟩ = some (.int .u64 p)) (h1 : w.cell? ⟨B, 1, none⟩ = some (.int .u64 q)) :
    (Builtin.copy_ #[27, 27] 3 #[.slice (some ⟨g, P, none⟩) 2 C1, .slice (some ⟨B, 0, none⟩) 2 2]).run Tryz.prog w = .ok (.int .i64 2) ((w.setCell ⟨g, P, none⟩ (.int .u64 p)).setCell ⟨g, P + 1, none⟩ (.int .u64 q)) := by
  obtain ⟨z, hz, hf⟩ := hR.get (i := P) (by omega)
  obtain ⟨y, hy, hg⟩ := hR.get hP
  exact run_copy_cells (P := Tryz.prog) w 27 27 3 26 g P 2 C1 ⟨B, 0, none⟩ 2 2 [.int .u64 p, .int .u64 q] Tryz.underlying27 size24 rfl
    (fun j v hv => by
      match j, hv with
      | 0, hv => simp at hv; subst hv; rw [add_is]; exact h0
      | 1, hv => simp at hv; subst hv; rw [add_is]; exact h1
      | j + 2, hv => simp at hv)
    (fun j hj => by
      match j, hj with
      | 0, _ => rw [Nat.add_zero, hz]; rfl
      | 1, _ => rw [hy]; rfl
      | j + 2, hj => exact absurd (show j + 2 < 2 from hj) (by omega))
    (fun j hj => by
      match j, hj with
      | 0, _ => rw [Nat.add_zero]; exact hf
      | 1, _ => exact hg
      | j + 2, hj => exact absurd (show j + 2 < 2 from hj) (by omega)) (by intro v hv; simp at hv; rcases hv with rfl | rfl <;> rfl)

set_option maxRecDepth 100000 in
set_option maxHeartbeats 4000000 in
theorem lay_1 (g N : Nat) (t : List Rc) (p q : Int) (w : World) (hT : Tab w) (hR : RowW w g (flatW 1 t)) (hN : t.length = N) (ht : Thin 1 t) (n1 : 1 ≤ N) (n2 : N ≤ 1024) (hr : Ur (p, q)) :
    Calls Tryz.prog 89 #[.slice (some ⟨g, 0, none⟩) N N, .int .i64 1, .agg #[.int .u64 p, .int .u64 q]] w fun e w' => e = .returned (.tuple #[]) ∧ RowW w' g (flatW 1 (layS t (p, q))) ∧ w.grownBy w' (some g) := by
  have hfn : ∀ f, Fence.wide.fn f := fun _ => trivial
  have hsa := Oper.semAt_some
  have hdep : Fence.wide.depth = none := rfl
  have hS : WS w (some ⟨g, 0, none⟩) N N (flatW 1 t) := hR.ws (by rw [flatW_len (by unfold Wd; omega), hN]; omega) (by omega) (Nat.le_refl _) (by omega)
  have hf := slotN_lt (k := p) (n := N) (by omega)
  have hsi : slot p (N : Int) = ((slotN p N : Nat) : Int) := slot_is p N n1
  obtain ⟨f, hfe⟩ : ∃ f, slotN p N = f := ⟨_, rfl⟩
  have Hf := Lib.hid hfe
  rw [hfe] at hf hsi
  have HS := Lib.hid hS
  have HR := Lib.hid hR
  have HN := Lib.hid hN
  have HT := Lib.hid ht
  obtain ⟨w3, hw3⟩ : ∃ w3, ((w.alloc (.cells #[.slice (some ⟨g, 0, none⟩) N N] 27)).alloc (.cells #[.int .i64 1] 3)).alloc (Rec2 p q) = w3 := ⟨_, rfl⟩
  have bS : Boxed w3 w.heap.size 27 (.slice (some ⟨g, 0, none⟩) N N) := by rw [← hw3]; exact ((Boxed.new w 27 _).alloc _).alloc _
  have bV : Boxed w3 (w.heap.size + 1) 3 (.int .i64 1) := by rw [← hw3]; have h := (Boxed.new (w.alloc (.cells #[.slice (some ⟨g, 0, none⟩) N N] 27)) 3 (.int .i64 1)).alloc (Rec2 p q); simpa only [World.size_alloc] using h
  have bR : w3.heap[w.heap.size + 1 + 1]? = some (Rec2 p q) := by rw [← hw3]; have h := World.alloc_heap_new ((w.alloc (.cells #[.slice (some ⟨g, 0, none⟩) N N] 27)).alloc (.cells #[.int .i64 1] 3)) (Rec2 p q); simpa only [World.size_alloc] using h
  have hE3 : Ext w w3 := by rw [← hw3]; exact (((Ext.refl w).alloc _).alloc _).alloc _
  have hz3 : w3.heap.size = w.heap.size + 3 := by rw [← hw3]; simp
  have hT3 : Tab w3.drew := hT.ext (hE3.drew)
  have HSl : RowKit.Hid (Calls Tryz.prog 85 #[.int .u64 p, .int .i64 N] w3.drew fun e w' => e = .returned (.int .i64 (f : Int)) ∧ Ext w3 w') := Lib.hid ((slot_any p N w3.drew hT3 hr.1.1 hr.1.2 (by omega) (by omega)).mono fun _ _ h => ⟨by rw [h.1, hsi], (Ext.drew (Ext.refl w3)).trans h.2.ext⟩)
  clear hS hR ht hN hfe hsi hT3 hT
  refine (callsIn_wide (n := 9)).1 ?_
  refine callsIn_of_wp_marks Tryz.func89 rfl trivial ?_ rfl
  simp only [Tryz.ntmps89, List.size_toArray, List.length_cons, List.length_nil, Nat.reduceAdd, Nat.reduceSub, Array.replicate_succ, Array.replicate_zero, List.push_toArray, List.append_toArray, List.nil_append, List.cons_append]
  gi_wp2
  clear hw3
  have g0 := bS.cell
  have g1 := bV.cell
  have g2 := (rec2_cells bR).1
  have hwN : IntKind.i64.wrap (N : Int) = N := IntWalk.i64_in _ (by omega)
  have hwN2 : RowKit.wrap64 (N : Int) = N := by rw [← hwN]; first | rfl | (unfold RowKit.wrap64; omega)
  refine wpIn_wide.2 ?_
  go_region_held3 (fun w' => (w'.cell? ⟨w.heap.size, 0, none⟩ = some (.slice (some ⟨g, 0, none⟩) N N) ∧ w'.cell? ⟨w.heap.size + 1, 0, none⟩ = some (.int .i64 1) ∧ w'.cell? ⟨w.heap.size + 1 + 1, 0, none⟩ = some (.int .u64 p)))
    (first
      | exact ⟨Ext.cell (Ext.alloc (Ext.alloc (Ext.alloc x1 _) _) _) g0, Ext.cell (Ext.alloc (Ext.alloc (Ext.alloc x1 _) _) _) g1, Ext.cell (Ext.alloc (Ext.alloc (Ext.alloc x1 _) _) _) g2⟩
      | exact ⟨Ext.cell x1 g0, Ext.cell x1 g1, Ext.cell x1 g2⟩
      | exact ⟨g0, g1, g2⟩
      | go_keep)
    (first
      | (go_at_call 85; with_reducible refine HSl.out.mono ?_; rintro e w1 ⟨rfl, x1⟩)
      | (go_at_call 84; with_reducible refine (round_any (some ⟨g, 0, none⟩) N N 1 f w1).mono ?_; rintro e w' ⟨rfl, rfl⟩))
  rename_i hh
  clear hh g0 g1 g2 HSl hwN hwN2
  gi_wp2
  obtain ⟨D, hD⟩ : ∃ D, w1.heap.size = D := ⟨_, rfl⟩
  obtain ⟨W0, hW0⟩ : ∃ W0, ((w1.alloc (.cells #[.slice (some ⟨g, 0, none⟩) N N] 27)).alloc (.cells #[.int .i64 1] 3)).alloc (.cells #[.int .i64 (f : Int)] 3) = W0 := ⟨_, rfl⟩
  have b0 : Boxed W0 D 27 (.slice (some ⟨g, 0, none⟩) N N) := by rw [← hW0, ← hD]; exact ((Boxed.new w1 27 _).alloc _).alloc _
  have b1 : Boxed W0 (D + 1) 3 (.int .i64 1) := by rw [← hW0, ← hD]; have h := (Boxed.new (w1.alloc (.cells #[.slice (some ⟨g, 0, none⟩) N N] 27)) 3 (.int .i64 1)).alloc (.cells #[.int .i64 (f : Int)] 3); simpa only [World.size_alloc] using h
  have b2 : Boxed W0 (D + 1 + 1) 3 (.int .i64 (f : Int)) := by rw [← hW0, ← hD]; have h := Boxed.new ((w1.alloc (.cells #[.slice (some ⟨g, 0, none⟩) N N] 27)).alloc (.cells #[.int .i64 1] 3)) 3 (.int .i64 (f : Int)); simpa only [World.size_alloc] using h
  have hE30 : Ext w3 W0 := by rw [← hW0]; exact ((x1.alloc _).alloc _).alloc _
  have hE0 : Ext w W0 := hE3.trans hE30
  have bS0 : Boxed W0 w.heap.size 27 (.slice (some ⟨g, 0, none⟩) N N) := (hE30.block _ bS.lt).trans bS
  have bV0 : Boxed W0 (w.heap.size + 1) 3 (.int .i64 1) := (hE30.block _ bV.lt).trans bV
  have bR0 : W0.heap[w.heap.size + 1 + 1]? = some (Rec2 p q) := (hE30.block _ (Array.getElem?_eq_some_iff.1 bR).1).trans bR
  have hD3 : w.heap.size + 3 ≤ D := by have := x1.size; omega
  have hsz : W0.heap.size = D + 3 := by rw [← hW0, ← hD]; simp
  rw [hW0, hD]
  clear hW0 hD x1 bS bV bR
  refine wpIn_rangeFunc_ownH rfl (by omega) (gf := 113) (lb := #[.pointer (some ⟨D, 0, none⟩), .pointer (some ⟨D + 1, 0, none⟩), .pointer (some ⟨D + 1 + 1, 0, none⟩)]) rfl trivial (enters_of Tryz.func113 (by kernel_rfl) rfl)
    (round_stops _ (some ⟨g, 0, none⟩) N N N 1 f D (D + 1) (D + 1 + 1) t w W0 (by unfold Wd; omega) HS.out HN.out HT.out hf hE0 b0 b1 b2) Keeps.trans (Keeps.put (w := W0) (by omega)) (Below.refl _ _) (fun _ => rfl)
    (fun pre W => (((∀ y ∈ pre, at' t y.1 ≠ (0, 0)) ∧ Boxed W w.heap.size 27 (.slice (some ⟨g, 0, none⟩) N N)) ∧ ((Boxed W (w.heap.size + 1) 3 (.int .i64 1) ∧ W.heap[w.heap.size + 1 + 1]? = some (Rec2 p q)) ∧ Boxed W (D + 1 + 1) 3 (.int .i64 (f : Int)))) ∧ Below w.heap.size w W)
    (fun cd pre W => Laid g 1 w t (p, q) cd pre W)
    (OwnFrom.and (OwnFrom.and (OwnFrom.and (ownFrom_pure _ _) (Own.from (boxed_own _ _ _) _)) (OwnFrom.and (OwnFrom.and (Own.from (boxed_own _ _ _) _) (Own.from (boxed_obj _ _ rfl) _)) (Own.from (boxed_own _ _ _) _))) (ownFrom_below (Nat.le_refl _) (by omega)))
    (fun cd => laid_own g 1 w _ (by omega) t (p, q) cd)
    ⟨⟨⟨by simp, bS0⟩, ⟨bV0, bR0⟩, b2⟩, hE0⟩
    (fun x a' W => ∃ Bx, D + 1 + 1 < Bx ∧ W.heap[Bx]? = some (Rec2 (at' t x.1).1 (at' t x.1).2) ∧ a' = { tmps := #[.slice (some ⟨g, 0, none⟩) N N, .int .i64 1, .agg #[.int .u64 p, .int .u64 q], .pointer (some ⟨w.heap.size, 0, none⟩), .pointer (some ⟨w.heap.size + 1, 0, none⟩), .pointer (some ⟨w.heap.size + 1 + 1, 0, none⟩), .int .i64 x.1, .pointer (some ⟨Bx, 0, none⟩), .slice (some ⟨g, 0, none⟩) N N, .int .i64 1, .pointer (some ⟨w.heap.size + 1 + 1, 0, none⟩), .int .u64 p, .slice (some ⟨g, 0, none⟩) N N, .int .i64 N, .int .i64 1, .int .i64 N, .int .i64 f,
      .func (.func 113) #[] #[.pointer (some ⟨D, 0, none⟩), .pointer (some ⟨D + 1, 0, none⟩), .pointer (some ⟨D + 1 + 1, 0, none⟩)], .int .i64 x.1, .agg #[.int .u64 (at' t x.1).1, .int .u64 (at' t x.1).2], undef, undef, undef, undef, undef, undef, undef, undef, undef, undef, undef], defers := [] })
    (fun x a' _ X Y row hs hg hr => by obtain ⟨Bx, h1, h2, h3⟩ := hs; exact ⟨Bx, h1, boxed_obj Bx _ rfl () X Y row h2 hg (fun r e => (hr r e).2), h3⟩)
    ?assign ?body ?done ?stop
  case assign =>
    rintro l pre x W K ⟨⟨⟨hp, kS⟩, ⟨kV, kR⟩, kF⟩, hB1⟩ hK
    have hle : w.heap.size ≤ W.heap.size := hB1.size
    have kR2 := (Below.heap_alloc W (Rec2 (at' t x.1).1 (at' t x.1).2) _ (Array.getElem?_eq_some_iff.1 kR).1).trans kR
    unfold encs
    gi_wp2
    exact hK _ _ ((KeepsOthers.alloc _ _).from _) (Keeps.alloc hle _) ⟨⟨⟨hp, kS.alloc _⟩, ⟨kV.alloc _, kR2⟩, kF.alloc _⟩, hB1.alloc hB1.size _⟩ ⟨W.heap.size, kF.lt, World.alloc_heap_new W _, rfl⟩
  case body =>
    rintro l pre x a' W hl ⟨r, hrr⟩ ⟨⟨⟨hp, kS⟩, ⟨kV, kR⟩, kF⟩, hB1⟩ ⟨Bx, hBx, bX, rfl⟩ hlt
    obtain ⟨pp, qq, hpq⟩ : ∃ pp qq, at' t x.1 = (pp, qq) := ⟨_, _, rfl⟩
    have Hpq := Lib.hid hpq
    rw [hpq] at bX ⊢
    dsimp only at bX ⊢
    obtain ⟨c0, c1⟩ := rec2_cells bX
    have hfd : (Fence.wide.inRound l).depth = none := rfl
    have hff : ∀ f, (Fence.wide.inRound l).fn f := fun _ => trivial
    have hle := hB1.size
    have Hp := Lib.hid hp
    clear hp hpq
    by_cases h0 : pp = 0 ∧ qq = 0
    · obtain ⟨rfl, rfl⟩ := h0
      have hx2 := x.2
      obtain ⟨P, hPx⟩ : ∃ P, x.1 = P := ⟨_, rfl⟩
      have HPx := Lib.hid hPx
      rw [hPx] at hx2 ⊢
      clear hPx
      have kSA := kS.alloc (Rec2 0 0)
      have kVA := kV.alloc (Rec2 0 0)
      have kRA := (Below.heap_alloc W (Rec2 0 0) _ (Array.getElem?_eq_some_iff.1 kR).1).trans kR
      have hBA : Below w.heap.size w (W.alloc (Rec2 0 0)) := hB1.alloc hB1.size _
      have hKA : KeepsOthers W (W.alloc (Rec2 0 0)) := KeepsOthers.alloc _ _
      gi_wp2_with (gi_at_call 86; refine (CallsIn.inRound l (callsIn_wide.2 (empty_any _ _ _))).mono ?_; rintro e w' ⟨rfl, rfl⟩)
      generalize W.alloc (Rec2 0 0) = WA at kSA kVA kRA hBA hKA ⊢
      have hR6 : RowW WA.drew g (flatW 1 t) := HR.out.ext (Ext.drew hBA)
      obtain ⟨r0, r1⟩ := rec2_cells kRA
      obtain ⟨M1, eM1⟩ : ∃ M1, RowKit.Hid (N - P = M1) := ⟨_, Lib.hid rfl⟩
      have hsl0 := slice_arr (w.heap.size + 1 + 1)
      have hsl1 := slice_lo1 g 0 N N (P) (by omega) (by omega)
      have hsl2 : ∀ W, (Instr.sliceAt 27 (.slice (some ⟨g, P, none⟩) M1 M1) none (some (.int .i64 1)) none).run Tryz.prog W = .ok (.slice (some ⟨g, P, none⟩) 1 M1) W := slice_hi1 (some ⟨g, P, none⟩) M1 M1 1 (by have := eM1.out; omega)
      rw [eM1.out, Nat.zero_add] at hsl1
      have hwP : IntKind.i64.wrap (P : Int) = P := IntWalk.i64_in _ (by omega)
      have hwP2 : IntKind.i64.wrap ((P : Int) * 2) = (P : Int) * 2 := IntWalk.i64_in _ (by omega)
      have hcp := copy_in1 (C1 := M1) (P := P) hR6 (by rw [flatW_len (by unfold Wd; omega), HN.out]; omega) (show WA.drew.cell? ⟨w.heap.size + 1 + 1, 0, none⟩ = _ from r0)
      have hglt : g < w.heap.size := by
        obtain ⟨z, hz, _⟩ := HR.out.get (i := 0) (by rw [flatW_len (by unfold Wd; omega), HN.out]; omega)
        exact World.block_lt_of_cell? w _ hz
      have hgne : g ≠ w.heap.size := by omega
      have hgne2 : g ≠ w.heap.size + 1 := by omega
      have cS := kSA.cell
      have cV := kVA.cell
      have hrow7 : RowKit.Hid (RowW (WA.drew.setCell ⟨g, P, none⟩ (.int .u64 p)) g (flatW 1 (t.set P (p, q)))) := Lib.hid (by rw [flat_set_1]; exact hR6.set (by rw [flatW_len (by unfold Wd; omega), HN.out]; omega) hr.1)
      have hgr7 : RowKit.Hid (w.grownBy (WA.drew.setCell ⟨g, P, none⟩ (.int .u64 p)) (some g)) := Lib.hid (grown_then (below_grown g hBA) (grown_then (W := WA.drew) ⟨rfl, rfl, rfl, Nat.le_refl _, fun _ _ _ => rfl⟩ (grown_set g P _) (fun k e => by cases e; exact .inr rfl)) (fun k e => by cases e; exact .inr rfl))
      have hko7 : RowKit.Hid (KeepsOthers W (WA.drew.setCell ⟨g, P, none⟩ (.int .u64 p))) := Lib.hid (hKA.trans ((KeepsOthers.drew _).trans (KeepsOthers.setCell _ _ _)))
      have s0 : (WA.drew.setCell ⟨g, P, none⟩ (.int .u64 p)).cell? ⟨w.heap.size, 0, none⟩ = some (.slice (some ⟨g, 0, none⟩) N N) := (cell_far hgne).trans cS
      have s1 : (WA.drew.setCell ⟨g, P, none⟩ (.int .u64 p)).cell? ⟨w.heap.size + 1, 0, none⟩ = some (.int .i64 1) := (cell_far hgne2).trans cV
      obtain ⟨W7, hW7⟩ : ∃ W7, WA.drew.setCell ⟨g, P, none⟩ (.int .u64 p) = W7 := ⟨_, rfl⟩
      rw [hW7] at hcp hrow7 hgr7 hko7 s0 s1
      clear hW7 hR6 r0 r1
      refine wpIn_region_held (S := fun w' => w'.cell? ⟨w.heap.size, 0, none⟩ = some (.slice (some ⟨g, 0, none⟩) N N) ∧ w'.cell? ⟨w.heap.size + 1, 0, none⟩ = some (.int .i64 1)) (by kernel_rfl) (by kernel_rfl) (fun h => by obtain ⟨_, _, h⟩ := h; exact h) ⟨cS, cV⟩ (fun hHeld => ?_)
      refine wpAnyH_take (i := 0) (v := .slice (some ⟨g, 0, none⟩) N N) rfl (by kernel_rfl) (by kernel_rfl) (by kernel_rfl) (fun _ _ _ h => h) (Or.inl ⟨by rfl, ?_⟩) (by assumption) ?_
      · rintro w ⟨h1, h2⟩
        go_simp
      refine wpAnyH_take (i := 1) (v := .int .i64 P) rfl (by kernel_rfl) (by kernel_rfl) (by kernel_rfl) (fun _ _ _ h => h) (Or.inl ⟨by rfl, ?_⟩) (by assumption) ?_
      · rintro w ⟨h1, h2⟩
        go_simp
      refine wpAnyH_take (i := 2) (v := .int .i64 1) rfl (by kernel_rfl) (by kernel_rfl) (by kernel_rfl) (fun _ _ _ h => h) (Or.inl ⟨by rfl, ?_⟩) (by assumption) ?_
      · rintro w ⟨h1, h2⟩
        go_simp
      refine wpAnyH_take (i := 3) (v := .int .i64 (P : Int)) rfl (by kernel_rfl) (by kernel_rfl) (by kernel_rfl) (fun _ _ _ h => h) (Or.inl ⟨by rfl, ?_⟩) (by assumption) ?_
      · rintro w ⟨h1, h2⟩
        go_simp
      refine wpAnyH_take (i := 4) (v := .slice (some ⟨g, P, none⟩) M1 M1) rfl (by kernel_rfl) (by kernel_rfl) (by kernel_rfl) (fun _ _ _ h => h) (Or.inl ⟨by rfl, ?_⟩) (by assumption) ?_
      · rintro w ⟨h1, h2⟩
        go_simp
      refine wpAnyH_take (i := 5) (v := .int .i64 1) rfl (by kernel_rfl) (by kernel_rfl) (by kernel_rfl) (fun _ _ _ h => h) (Or.inl ⟨by rfl, ?_⟩) (by assumption) ?_
      · rintro w ⟨h1, h2⟩
        go_simp
      refine wpAnyH_take (i := 6) (v := .slice (some ⟨g, P, none⟩) 1 M1) rfl (by kernel_rfl) (by kernel_rfl) (by kernel_rfl) (fun _ _ _ h => h) (Or.inl ⟨by rfl, ?_⟩) (by assumption) ?_
      · rintro w ⟨h1, h2⟩
        go_simp
      refine wpAnyH_take (i := 7) (v := .slice (some ⟨w.heap.size + 1 + 1, 0, none⟩) 2 2) rfl (by kernel_rfl) (by kernel_rfl) (by kernel_rfl) (fun _ _ _ h => h) (Or.inl ⟨by rfl, ?_⟩) (by assumption) ?_
      · rintro w ⟨h1, h2⟩
        go_simp
      refine wpAnyH_ready (rs := [8]) (by kernel_rfl) (by simp) ?_
      refine AllReadyH.cons rfl (fun K hK => ?_) AllReadyH.nil
      go_simp
      refine hK.out _ _ ⟨s0, s1⟩ (fun hHeld => ?_)
      clear hK K
      refine wpAnyH_done (by kernel_rfl) ?_ _
      clear hsl0 hsl1 hsl2 hcp
      gi_wp2
      exact ⟨hko7.out.from _, rfl, pre, x, rfl, Hpq.out, Hp.out, by rw [HPx.out]; exact hrow7.out, hgr7.out⟩
    · have hb : ((pp == 0) && (qq == 0)) = false := by
        rw [Bool.and_eq_false_iff]
        by_cases e : pp = 0
        · exact .inr (by simpa using fun e2 => h0 ⟨e, e2⟩)
        · exact .inl (by simpa using e)
      have hE2 := fun W => empty_any pp qq W
      rw [hb] at hE2
      have HE2 := Lib.hid hE2
      have HN2 : RowKit.Hid (∀ y ∈ pre ++ [x], at' t y.1 ≠ (0, 0)) := Lib.hid (fun y hy => (List.mem_append.1 hy).elim (Hp.out y) (fun e => by simp at e; subst e; rw [Hpq.out]; intro e; cases e; exact h0 ⟨rfl, rfl⟩))
      have kR2 := (Below.heap_alloc W (Rec2 pp qq) _ (Array.getElem?_eq_some_iff.1 kR).1).trans kR
      clear h0 hE2 hb
      gi_wp2_with (gi_at_call 86; refine (CallsIn.inRound l (callsIn_wide.2 (HE2.out _))).mono ?_; rintro e w' ⟨rfl, rfl⟩)
      exact ⟨(KeepsOthers.alloc _ _).from _, Keeps.alloc hle _, ⟨⟨HN2.out, kS.alloc _⟩, ⟨kV.alloc _, kR2⟩, kF.alloc _⟩, hB1.alloc hB1.size _⟩
  case done =>
    rintro D' ys W hD' hxs ⟨⟨⟨hp, kS⟩, ⟨kV, kR⟩, kF⟩, hB1⟩ hK
    have hfin : RowKit.Hid (layS t (p, q) = t) := Lib.hid (layS_full HN.out (fun i hi => by
      obtain ⟨x, hx, e⟩ := plc_get hxs hi
      have hfo := Hf.out
      show at' t ((slotN p N + i) % N) ≠ (0, 0)
      rw [hfo, ← e]; exact hp x hx))
    clear hp
    gi_wp2
    refine ⟨by simp, .inl ⟨_, _, rfl, run_takeDeferred hK, ?_⟩⟩
    refine ⟨_, results_none rfl _ _ _, rfl, ?_, grown_then (below_grown g hB1) (grownBy_putObj' W D' (.deferred none)) (fun k e => by cases e; exact .inl (by omega))⟩
    rw [hfin.out]
    exact HR.out.ext (hB1.trans (belowK_b (w := w) (Nat.le_refl _) _ D' _ _ (by omega) hK rfl rfl))
  case stop =>
    rintro D' cd pre W hD' hpre ⟨rfl, pr, x, rfl, hx, hno, hrow, hgr⟩ hK
    have hfin : RowKit.Hid (layS t (p, q) = t.set x.1 (p, q)) := Lib.hid (by
      obtain ⟨j, hj, e⟩ := hpre
      obtain ⟨e1, e2⟩ := plc_last e
      have hfo : slotN (p, q).1 N = f := Hf.out
      rw [layS_at (r := (p, q)) (i := j) HN.out hj (by rw [hfo, ← e2]; exact hx) (fun i hi => ?_), hfo, e2]
      obtain ⟨y, hy, ey⟩ := plc_get e1 hi
      rw [hfo, ← ey]; exact hno y hy)
    clear hno hpre
    gi_wp2
    refine ⟨by simp, .inl ⟨_, _, rfl, run_takeDeferred hK, ?_⟩⟩
    refine ⟨_, results_none rfl _ _ _, rfl, ?_, grown_then hgr (grownBy_putObj' W D' (.deferred none)) (fun k e => by cases e; exact .inl (by omega))⟩
    rw [hfin.out]
    exact rowW_own (β := Unit) g 0 (fun _ => flatW 1 (t.set x.1 (p, q))) () W _ (some D') hrow (grownBy_putObj' W D' (.deferred none)) (fun r e => by cases e; exact ⟨Nat.zero_le _, _, hK, rfl⟩)

set_option maxRecDepth 100000 in
set_option maxHeartbeats 4000000 in
theorem lay_2 (g N m : Nat) (t : List Rc) (p q : Int) (w : World) (hT : Tab w) (hR : RowW w g (flatW 2 t)) (hN : t.length = N) (hM : m = N * 2) (ht : Thin 2 t) (n1 : 1 ≤ N) (n2 : N ≤ 1024) (hr : Ur (p, q)) :
    Calls Tryz.prog 89 #[.slice (some ⟨g, 0, none⟩) m m, .int .i64 2, .agg #[.int .u64 p, .int .u64 q]] w fun e w' => e = .returned (.tuple #[]) ∧ RowW w' g (flatW 2 (layS t (p, q))) ∧ w.grownBy w' (some g) := by
  have hfn : ∀ f, Fence.wide.fn f := fun _ => trivial
  have hsa := Oper.semAt_some
  have hdep : Fence.wide.depth = none := rfl
  have hdv : (m : Int).tdiv 2 = N := by rw [quo_2]; omega
  have hNb : N ≤ 1048576 := by omega
  have HM := Lib.hid hM
  have hS : WS w (some ⟨g, 0, none⟩) m m (flatW 2 t) := hR.ws (by rw [flatW_len (by unfold Wd; omega), hN]; omega) (by omega) (Nat.le_refl _) (by omega)
  have hf := slotN_lt (k := p) (n := N) (by omega)
  have hsi : slot p (N : Int) = ((slotN p N : Nat) : Int) := slot_is p N n1
  obtain ⟨f, hfe⟩ : ∃ f, slotN p N = f := ⟨_, rfl⟩
  have Hf := Lib.hid hfe
  rw [hfe] at hf hsi
  have HS := Lib.hid hS
  have HR := Lib.hid hR
  have HN := Lib.hid hN
  have HT := Lib.hid ht
  obtain ⟨w3, hw3⟩ : ∃ w3, ((w.alloc (.cells #[.slice (some ⟨g, 0, none⟩) m m] 27)).alloc (.cells #[.int .i64 2] 3)).alloc (Rec2 p q) = w3 := ⟨_, rfl⟩
  have bS : Boxed w3 w.heap.size 27 (.slice (some ⟨g, 0, none⟩) m m) := by rw [← hw3]; exact ((Boxed.new w 27 _).alloc _).alloc _
  have bV : Boxed w3 (w.heap.size + 1) 3 (.int .i64 2) := by rw [← hw3]; have h := (Boxed.new (w.alloc (.cells #[.slice (some ⟨g, 0, none⟩) m m] 27)) 3 (.int .i64 2)).alloc (Rec2 p q); simpa only [World.size_alloc] using h
  have bR : w3.heap[w.heap.size + 1 + 1]? = some (Rec2 p q) := by rw [← hw3]; have h := World.alloc_heap_new ((w.alloc (.cells #[.slice (some ⟨g, 0, none⟩) m m] 27)).alloc (.cells #[.int .i64 2] 3)) (Rec2 p q); simpa only [World.size_alloc] using h
  have hE3 : Ext w w3 := by rw [← hw3]; exact (((Ext.refl w).alloc _).alloc _).alloc _
  have hz3 : w3.heap.size = w.heap.size + 3 := by rw [← hw3]; simp
  have hT3 : Tab w3.drew := hT.ext (hE3.drew)
  have HSl : RowKit.Hid (Calls Tryz.prog 85 #[.int .u64 p, .int .i64 N] w3.drew fun e w' => e = .returned (.int .i64 (f : Int)) ∧ Ext w3 w') := Lib.hid ((slot_any p N w3.drew hT3 hr.1.1 hr.1.2 (by omega) (by omega)).mono fun _ _ h => ⟨by rw [h.1, hsi], (Ext.drew (Ext.refl w3)).trans h.2.ext⟩)
  clear hS hR ht hN hfe hsi hT3 hT hM
  refine (callsIn_wide (n := 9)).1 ?_
  refine callsIn_of_wp_marks Tryz.func89 rfl trivial ?_ rfl
  simp only [Tryz.ntmps89, List.size_toArray, List.length_cons, List.length_nil, Nat.reduceAdd, Nat.reduceSub, Array.replicate_succ, Array.replicate_zero, List.push_toArray, List.append_toArray, List.nil_append, List.cons_append]
  gi_wp2
  clear hw3
  have g0 := bS.cell
  have g1 := bV.cell
  have g2 := (rec2_cells bR).1
  have hwN : IntKind.i64.wrap (N : Int) = N := IntWalk.i64_in _ (by omega)
  have hwN2 : RowKit.wrap64 (N : Int) = N := by rw [← hwN]; first | rfl | (unfold RowKit.wrap64; omega)
  refine wpIn_wide.2 ?_
  go_region_held3 (fun w' => (w'.cell? ⟨w.heap.size, 0, none⟩ = some (.slice (some ⟨g, 0, none⟩) m m) ∧ w'.cell? ⟨w.heap.size + 1, 0, none⟩ = some (.int .i64 2) ∧ w'.cell? ⟨w.heap.size + 1 + 1, 0, none⟩ = some (.int .u64 p)))
    (first
      | exact ⟨Ext.cell (Ext.alloc (Ext.alloc (Ext.alloc x1 _) _) _) g0, Ext.cell (Ext.alloc (Ext.alloc (Ext.alloc x1 _) _) _) g1, Ext.cell (Ext.alloc (Ext.alloc (Ext.alloc x1 _) _) _) g2⟩
      | exact ⟨Ext.cell x1 g0, Ext.cell x1 g1, Ext.cell x1 g2⟩
      | exact ⟨g0, g1, g2⟩
      | go_keep)
    (first
      | (go_at_call 85; with_reducible refine HSl.out.mono ?_; rintro e w1 ⟨rfl, x1⟩)
      | (go_at_call 84; with_reducible refine (round_any (some ⟨g, 0, none⟩) m m 2 f w1).mono ?_; rintro e w' ⟨rfl, rfl⟩))
  rename_i hh
  clear hh g0 g1 g2 HSl hwN hwN2
  gi_wp2
  obtain ⟨D, hD⟩ : ∃ D, w1.heap.size = D := ⟨_, rfl⟩
  obtain ⟨W0, hW0⟩ : ∃ W0, ((w1.alloc (.cells #[.slice (some ⟨g, 0, none⟩) m m] 27)).alloc (.cells #[.int .i64 2] 3)).alloc (.cells #[.int .i64 (f : Int)] 3) = W0 := ⟨_, rfl⟩
  have b0 : Boxed W0 D 27 (.slice (some ⟨g, 0, none⟩) m m) := by rw [← hW0, ← hD]; exact ((Boxed.new w1 27 _).alloc _).alloc _
  have b1 : Boxed W0 (D + 1) 3 (.int .i64 2) := by rw [← hW0, ← hD]; have h := (Boxed.new (w1.alloc (.cells #[.slice (some ⟨g, 0, none⟩) m m] 27)) 3 (.int .i64 2)).alloc (.cells #[.int .i64 (f : Int)] 3); simpa only [World.size_alloc] using h
  have b2 : Boxed W0 (D + 1 + 1) 3 (.int .i64 (f : Int)) := by rw [← hW0, ← hD]; have h := Boxed.new ((w1.alloc (.cells #[.slice (some ⟨g, 0, none⟩) m m] 27)).alloc (.cells #[.int .i64 2] 3)) 3 (.int .i64 (f : Int)); simpa only [World.size_alloc] using h
  have hE30 : Ext w3 W0 := by rw [← hW0]; exact ((x1.alloc _).alloc _).alloc _
  have hE0 : Ext w W0 := hE3.trans hE30
  have bS0 : Boxed W0 w.heap.size 27 (.slice (some ⟨g, 0, none⟩) m m) := (hE30.block _ bS.lt).trans bS
  have bV0 : Boxed W0 (w.heap.size + 1) 3 (.int .i64 2) := (hE30.block _ bV.lt).trans bV
  have bR0 : W0.heap[w.heap.size + 1 + 1]? = some (Rec2 p q) := (hE30.block _ (Array.getElem?_eq_some_iff.1 bR).1).trans bR
  have hD3 : w.heap.size + 3 ≤ D := by have := x1.size; omega
  have hsz : W0.heap.size = D + 3 := by rw [← hW0, ← hD]; simp
  rw [hW0, hD]
  clear hW0 hD x1 bS bV bR
  refine wpIn_rangeFunc_ownH rfl (by omega) (gf := 113) (lb := #[.pointer (some ⟨D, 0, none⟩), .pointer (some ⟨D + 1, 0, none⟩), .pointer (some ⟨D + 1 + 1, 0, none⟩)]) rfl trivial (enters_of Tryz.func113 (by kernel_rfl) rfl)
    (round_stops _ (some ⟨g, 0, none⟩) N m m 2 f D (D + 1) (D + 1 + 1) t w W0 (by unfold Wd; omega) HS.out HN.out HT.out hf hE0 b0 b1 b2) Keeps.trans (Keeps.put (w := W0) (by omega)) (Below.refl _ _) (fun _ => rfl)
    (fun pre W => (((∀ y ∈ pre, at' t y.1 ≠ (0, 0)) ∧ Boxed W w.heap.size 27 (.slice (some ⟨g, 0, none⟩) m m)) ∧ ((Boxed W (w.heap.size + 1) 3 (.int .i64 2) ∧ W.heap[w.heap.size + 1 + 1]? = some (Rec2 p q)) ∧ Boxed W (D + 1 + 1) 3 (.int .i64 (f : Int)))) ∧ Below w.heap.size w W)
    (fun cd pre W => Laid g 2 w t (p, q) cd pre W)
    (OwnFrom.and (OwnFrom.and (OwnFrom.and (ownFrom_pure _ _) (Own.from (boxed_own _ _ _) _)) (OwnFrom.and (OwnFrom.and (Own.from (boxed_own _ _ _) _) (Own.from (boxed_obj _ _ rfl) _)) (Own.from (boxed_own _ _ _) _))) (ownFrom_below (Nat.le_refl _) (by omega)))
    (fun cd => laid_own g 2 w _ (by omega) t (p, q) cd)
    ⟨⟨⟨by simp, bS0⟩, ⟨bV0, bR0⟩, b2⟩, hE0⟩
    (fun x a' W => ∃ Bx, D + 1 + 1 < Bx ∧ W.heap[Bx]? = some (Rec2 (at' t x.1).1 (at' t x.1).2) ∧ a' = { tmps := #[.slice (some ⟨g, 0, none⟩) m m, .int .i64 2, .agg #[.int .u64 p, .int .u64 q], .pointer (some ⟨w.heap.size, 0, none⟩), .pointer (some ⟨w.heap.size + 1, 0, none⟩), .pointer (some ⟨w.heap.size + 1 + 1, 0, none⟩), .int .i64 x.1, .pointer (some ⟨Bx, 0, none⟩), .slice (some ⟨g, 0, none⟩) m m, .int .i64 2, .pointer (some ⟨w.heap.size + 1 + 1, 0, none⟩), .int .u64 p, .slice (some ⟨g, 0, none⟩) m m, .int .i64 m, .int .i64 2, .int .i64 N, .int .i64 f,
      .func (.func 113) #[] #[.pointer (some ⟨D, 0, none⟩), .pointer (some ⟨D + 1, 0, none⟩), .pointer (some ⟨D + 1 + 1, 0, none⟩)], .int .i64 x.1, .agg #[.int .u64 (at' t x.1).1, .int .u64 (at' t x.1).2], undef, undef, undef, undef, undef, undef, undef, undef, undef, undef, undef], defers := [] })
    (fun x a' _ X Y row hs hg hr => by obtain ⟨Bx, h1, h2, h3⟩ := hs; exact ⟨Bx, h1, boxed_obj Bx _ rfl () X Y row h2 hg (fun r e => (hr r e).2), h3⟩)
    ?assign ?body ?done ?stop
  case assign =>
    rintro l pre x W K ⟨⟨⟨hp, kS⟩, ⟨kV, kR⟩, kF⟩, hB1⟩ hK
    have hle : w.heap.size ≤ W.heap.size := hB1.size
    have kR2 := (Below.heap_alloc W (Rec2 (at' t x.1).1 (at' t x.1).2) _ (Array.getElem?_eq_some_iff.1 kR).1).trans kR
    unfold encs
    gi_wp2
    exact hK _ _ ((KeepsOthers.alloc _ _).from _) (Keeps.alloc hle _) ⟨⟨⟨hp, kS.alloc _⟩, ⟨kV.alloc _, kR2⟩, kF.alloc _⟩, hB1.alloc hB1.size _⟩ ⟨W.heap.size, kF.lt, World.alloc_heap_new W _, rfl⟩
  case body =>
    rintro l pre x a' W hl ⟨r, hrr⟩ ⟨⟨⟨hp, kS⟩, ⟨kV, kR⟩, kF⟩, hB1⟩ ⟨Bx, hBx, bX, rfl⟩ hlt
    obtain ⟨pp, qq, hpq⟩ : ∃ pp qq, at' t x.1 = (pp, qq) := ⟨_, _, rfl⟩
    have Hpq := Lib.hid hpq
    rw [hpq] at bX ⊢
    dsimp only at bX ⊢
    obtain ⟨c0, c1⟩ := rec2_cells bX
    have hfd : (Fence.wide.inRound l).depth = none := rfl
    have hff : ∀ f, (Fence.wide.inRound l).fn f := fun _ => trivial
    have hle := hB1.size
    have Hp := Lib.hid hp
    clear hp hpq
    by_cases h0 : pp = 0 ∧ qq = 0
    · obtain ⟨rfl, rfl⟩ := h0
      have hx2 := x.2
      obtain ⟨P, hPx⟩ : ∃ P, x.1 = P := ⟨_, rfl⟩
      have HPx := Lib.hid hPx
      rw [hPx] at hx2 ⊢
      clear hPx
      have hP2 : P * 2 + 1 < m := by have := HM.out; omega
      have kSA := kS.alloc (Rec2 0 0)
      have kVA := kV.alloc (Rec2 0 0)
      have kRA := (Below.heap_alloc W (Rec2 0 0) _ (Array.getElem?_eq_some_iff.1 kR).1).trans kR
      have hBA : Below w.heap.size w (W.alloc (Rec2 0 0)) := hB1.alloc hB1.size _
      have hKA : KeepsOthers W (W.alloc (Rec2 0 0)) := KeepsOthers.alloc _ _
      gi_wp2_with (gi_at_call 86; refine (CallsIn.inRound l (callsIn_wide.2 (empty_any _ _ _))).mono ?_; rintro e w' ⟨rfl, rfl⟩)
      generalize W.alloc (Rec2 0 0) = WA at kSA kVA kRA hBA hKA ⊢
      have hR6 : RowW WA.drew g (flatW 2 t) := HR.out.ext (Ext.drew hBA)
      obtain ⟨r0, r1⟩ := rec2_cells kRA
      obtain ⟨M1, eM1⟩ : ∃ M1, RowKit.Hid (m - P * 2 = M1) := ⟨_, Lib.hid rfl⟩
      have hsl0 := slice_arr (w.heap.size + 1 + 1)
      have hsl1 := slice_lo1 g 0 m m (P * 2) (by omega) (by omega)
      rw [show (((P * 2 : Nat) : Int)) = (P : Int) * 2 by omega] at hsl1
      have hsl2 : ∀ W, (Instr.sliceAt 27 (.slice (some ⟨g, P * 2, none⟩) M1 M1) none (some (.int .i64 2)) none).run Tryz.prog W = .ok (.slice (some ⟨g, P * 2, none⟩) 2 M1) W := slice_hi1 (some ⟨g, P * 2, none⟩) M1 M1 2 (by have := eM1.out; omega)
      rw [eM1.out, Nat.zero_add] at hsl1
      have hwP : IntKind.i64.wrap (P : Int) = P := IntWalk.i64_in _ (by omega)
      have hwP2 : IntKind.i64.wrap ((P : Int) * 2) = (P : Int) * 2 := IntWalk.i64_in _ (by omega)
      have hcp := copy_in2 (C1 := M1) (P := P * 2) hR6 (by rw [flatW_len (by unfold Wd; omega), HN.out]; have := HM.out; omega) (show WA.drew.cell? ⟨w.heap.size + 1 + 1, 0, none⟩ = _ from r0) (show WA.drew.cell? ⟨w.heap.size + 1 + 1, 1, none⟩ = _ from r1)
      have hglt : g < w.heap.size := by
        obtain ⟨z, hz, _⟩ := HR.out.get (i := 0) (by rw [flatW_len (by unfold Wd; omega), HN.out]; omega)
        exact World.block_lt_of_cell? w _ hz
      have hgne : g ≠ w.heap.size := by omega
      have hgne2 : g ≠ w.heap.size + 1 := by omega
      have cS := kSA.cell
      have cV := kVA.cell
      have hrow7 : RowKit.Hid (RowW ((WA.drew.setCell ⟨g, P * 2, none⟩ (.int .u64 p)).setCell ⟨g, P * 2 + 1, none⟩ (.int .u64 q)) g (flatW 2 (t.set P (p, q)))) := Lib.hid (by rw [flat_set_2]; exact (hR6.set (by rw [flatW_len (by unfold Wd; omega), HN.out]; omega) hr.1).set (by rw [List.length_set, flatW_len (by unfold Wd; omega), HN.out]; omega) hr.2)
      have hgr7 : RowKit.Hid (w.grownBy ((WA.drew.setCell ⟨g, P * 2, none⟩ (.int .u64 p)).setCell ⟨g, P * 2 + 1, none⟩ (.int .u64 q)) (some g)) := Lib.hid (grown_then (below_grown g hBA) (grown_then (grown_then (W := WA.drew) ⟨rfl, rfl, rfl, Nat.le_refl _, fun _ _ _ => rfl⟩ (grown_set g (P * 2) _) (fun k e => by cases e; exact .inr rfl)) (grown_set g (P * 2 + 1) _) (fun k e => by cases e; exact .inr rfl)) (fun k e => by cases e; exact .inr rfl))
      have hko7 : RowKit.Hid (KeepsOthers W ((WA.drew.setCell ⟨g, P * 2, none⟩ (.int .u64 p)).setCell ⟨g, P * 2 + 1, none⟩ (.int .u64 q))) := Lib.hid (hKA.trans (((KeepsOthers.drew _).trans (KeepsOthers.setCell _ _ _)).trans (KeepsOthers.setCell _ _ _)))
      have s0 : ((WA.drew.setCell ⟨g, P * 2, none⟩ (.int .u64 p)).setCell ⟨g, P * 2 + 1, none⟩ (.int .u64 q)).cell? ⟨w.heap.size, 0, none⟩ = some (.slice (some ⟨g, 0, none⟩) m m) := (cell_far hgne).trans ((cell_far hgne).trans cS)
      have s1 : ((WA.drew.setCell ⟨g, P * 2, none⟩ (.int .u64 p)).setCell ⟨g, P * 2 + 1, none⟩ (.int .u64 q)).cell? ⟨w.heap.size + 1, 0, none⟩ = some (.int .i64 2) := (cell_far hgne2).trans ((cell_far hgne2).trans cV)
      obtain ⟨W7, hW7⟩ : ∃ W7, (WA.drew.setCell ⟨g, P * 2, none⟩ (.int .u64 p)).setCell ⟨g, P * 2 + 1, none⟩ (.int .u64 q) = W7 := ⟨_, rfl⟩
      rw [hW7] at hcp hrow7 hgr7 hko7 s0 s1
      clear hW7 hR6 r0 r1
      refine wpIn_region_held (S := fun w' => w'.cell? ⟨w.heap.size, 0, none⟩ = some (.slice (some ⟨g, 0, none⟩) m m) ∧ w'.cell? ⟨w.heap.size + 1, 0, none⟩ = some (.int .i64 2)) (by kernel_rfl) (by kernel_rfl) (fun h => by obtain ⟨_, _, h⟩ := h; exact h) ⟨cS, cV⟩ (fun hHeld => ?_)
      refine wpAnyH_take (i := 0) (v := .slice (some ⟨g, 0, none⟩) m m) rfl (by kernel_rfl) (by kernel_rfl) (by kernel_rfl) (fun _ _ _ h => h) (Or.inl ⟨by rfl, ?_⟩) (by assumption) ?_
      · rintro w ⟨h1, h2⟩
        go_simp
      refine wpAnyH_take (i := 1) (v := .int .i64 P) rfl (by kernel_rfl) (by kernel_rfl) (by kernel_rfl) (fun _ _ _ h => h) (Or.inl ⟨by rfl, ?_⟩) (by assumption) ?_
      · rintro w ⟨h1, h2⟩
        go_simp
      refine wpAnyH_take (i := 2) (v := .int .i64 2) rfl (by kernel_rfl) (by kernel_rfl) (by kernel_rfl) (fun _ _ _ h => h) (Or.inl ⟨by rfl, ?_⟩) (by assumption) ?_
      · rintro w ⟨h1, h2⟩
        go_simp
      refine wpAnyH_take (i := 3) (v := .int .i64 ((P : Int) * 2)) rfl (by kernel_rfl) (by kernel_rfl) (by kernel_rfl) (fun _ _ _ h => h) (Or.inl ⟨by rfl, ?_⟩) (by assumption) ?_
      · rintro w ⟨h1, h2⟩
        go_simp
      refine wpAnyH_take (i := 4) (v := .slice (some ⟨g, P * 2, none⟩) M1 M1) rfl (by kernel_rfl) (by kernel_rfl) (by kernel_rfl) (fun _ _ _ h => h) (Or.inl ⟨by rfl, ?_⟩) (by assumption) ?_
      · rintro w ⟨h1, h2⟩
        go_simp
      refine wpAnyH_take (i := 5) (v := .int .i64 2) rfl (by kernel_rfl) (by kernel_rfl) (by kernel_rfl) (fun _ _ _ h => h) (Or.inl ⟨by rfl, ?_⟩) (by assumption) ?_
      · rintro w ⟨h1, h2⟩
        go_simp
      refine wpAnyH_take (i := 6) (v := .slice (some ⟨g, P * 2, none⟩) 2 M1) rfl (by kernel_rfl) (by kernel_rfl) (by kernel_rfl) (fun _ _ _ h => h) (Or.inl ⟨by rfl, ?_⟩) (by assumption) ?_
      · rintro w ⟨h1, h2⟩
        go_simp
      refine wpAnyH_take (i := 7) (v := .slice (some ⟨w.heap.size + 1 + 1, 0, none⟩) 2 2) rfl (by kernel_rfl) (by kernel_rfl) (by kernel_rfl) (fun _ _ _ h => h) (Or.inl ⟨by rfl, ?_⟩) (by assumption) ?_
      · rintro w ⟨h1, h2⟩
        go_simp
      refine wpAnyH_ready (rs := [8]) (by kernel_rfl) (by simp) ?_
      refine AllReadyH.cons rfl (fun K hK => ?_) AllReadyH.nil
      go_simp
      refine hK.out _ _ ⟨s0, s1⟩ (fun hHeld => ?_)
      clear hK K
      refine wpAnyH_done (by kernel_rfl) ?_ _
      clear hsl0 hsl1 hsl2 hcp
      gi_wp2
      exact ⟨hko7.out.from _, rfl, pre, x, rfl, Hpq.out, Hp.out, by rw [HPx.out]; exact hrow7.out, hgr7.out⟩
    · have hb : ((pp == 0) && (qq == 0)) = false := by
        rw [Bool.and_eq_false_iff]
        by_cases e : pp = 0
        · exact .inr (by simpa using fun e2 => h0 ⟨e, e2⟩)
        · exact .inl (by simpa using e)
      have hE2 := fun W => empty_any pp qq W
      rw [hb] at hE2
      have HE2 := Lib.hid hE2
      have HN2 : RowKit.Hid (∀ y ∈ pre ++ [x], at' t y.1 ≠ (0, 0)) := Lib.hid (fun y hy => (List.mem_append.1 hy).elim (Hp.out y) (fun e => by simp at e; subst e; rw [Hpq.out]; intro e; cases e; exact h0 ⟨rfl, rfl⟩))
      have kR2 := (Below.heap_alloc W (Rec2 pp qq) _ (Array.getElem?_eq_some_iff.1 kR).1).trans kR
      clear h0 hE2 hb
      gi_wp2_with (gi_at_call 86; refine (CallsIn.inRound l (callsIn_wide.2 (HE2.out _))).mono ?_; rintro e w' ⟨rfl, rfl⟩)
      exact ⟨(KeepsOthers.alloc _ _).from _, Keeps.alloc hle _, ⟨⟨HN2.out, kS.alloc _⟩, ⟨kV.alloc _, kR2⟩, kF.alloc _⟩, hB1.alloc hB1.size _⟩
  case done =>
    rintro D' ys W hD' hxs ⟨⟨⟨hp, kS⟩, ⟨kV, kR⟩, kF⟩, hB1⟩ hK
    have hfin : RowKit.Hid (layS t (p, q) = t) := Lib.hid (layS_full HN.out (fun i hi => by
      obtain ⟨x, hx, e⟩ := plc_get hxs hi
      have hfo := Hf.out
      show at' t ((slotN p N + i) % N) ≠ (0, 0)
      rw [hfo, ← e]; exact hp x hx))
    clear hp
    gi_wp2
    refine ⟨by simp, .inl ⟨_, _, rfl, run_takeDeferred hK, ?_⟩⟩
    refine ⟨_, results_none rfl _ _ _, rfl, ?_, grown_then (below_grown g hB1) (grownBy_putObj' W D' (.deferred none)) (fun k e => by cases e; exact .inl (by omega))⟩
    rw [hfin.out]
    exact HR.out.ext (hB1.trans (belowK_b (w := w) (Nat.le_refl _) _ D' _ _ (by omega) hK rfl rfl))
  case stop =>
    rintro D' cd pre W hD' hpre ⟨rfl, pr, x, rfl, hx, hno, hrow, hgr⟩ hK
    have hfin : RowKit.Hid (layS t (p, q) = t.set x.1 (p, q)) := Lib.hid (by
      obtain ⟨j, hj, e⟩ := hpre
      obtain ⟨e1, e2⟩ := plc_last e
      have hfo : slotN (p, q).1 N = f := Hf.out
      rw [layS_at (r := (p, q)) (i := j) HN.out hj (by rw [hfo, ← e2]; exact hx) (fun i hi => ?_), hfo, e2]
      obtain ⟨y, hy, ey⟩ := plc_get e1 hi
      rw [hfo, ← ey]; exact hno y hy)
    clear hno hpre
    gi_wp2
    refine ⟨by simp, .inl ⟨_, _, rfl, run_takeDeferred hK, ?_⟩⟩
    refine ⟨_, results_none rfl _ _ _, rfl, ?_, grown_then hgr (grownBy_putObj' W D' (.deferred none)) (fun k e => by cases e; exact .inl (by omega))⟩
    rw [hfin.out]
    exact rowW_own (β := Unit) g 0 (fun _ => flatW 2 (t.set x.1 (p, q))) () W _ (some D') hrow (grownBy_putObj' W D' (.deferred none)) (fun r e => by cases e; exact ⟨Nat.zero_le _, _, hK, rfl⟩)

theorem lay_any (g N m v : Nat) (t : List Rc) (p q : Int) (w : World) (hT : Tab w) (hv : Wd v) (hR : RowW w g (flatW v t)) (hN : t.length = N) (hm : m = N * v) (ht : Thin v t) (n1 : 1 ≤ N) (n2 : N ≤ 1024) (hr : Ur (p, q)) :
    Calls Tryz.prog 89 #[.slice (some ⟨g, 0, none⟩) m m, .int .i64 v, .agg #[.int .u64 p, .int .u64 q]] w fun e w' => e = .returned (.tuple #[]) ∧ RowW w' g (flatW v (layS t (p, q))) ∧ w.grownBy w' (some g) := by
  rcases hv with rfl | rfl
  · obtain rfl : N = m := by omega
    exact lay_1 g N t p q w hT hR hN ht n1 n2 hr
  · exact lay_2 g N m t p q w hT hR hN hm ht n1 n2 hr

end Go.Proofs.YtmonkcekkhfafaaGreatDoor.Prb

