/-
  What Path, Next and Find return. Conditions: the keys and the links are there; the package's table lies.
-/
import Derived.Test.YtnmeakkehonnmaaDoorTrpWay
namespace Go.Proofs.YtnmeakkehonnmaaDoor.Trp
open Go.RowKit Go.Shelf

theorem one_cell (W : World) (x : Value) : ∀ j u, ([x] : List Value)[j]? = some u → (W.alloc (.cells #[x] 3)).cell? ((⟨W.heap.size, 0, none⟩ : Addr).add j) = some u := fun j u hu => by
  rw [add_is]
  unfold World.cell?
  rw [World.alloc_heap_new]
  match j, hu with
  | 0, hu => simpa using hu
  | j + 1, hu => simp at hu
theorem flatNS_snoc (xs : List Int) (x : Int) : flatNS (xs ++ [x]) = flatNS xs ++ [.int .i64 x] := flatNS_append xs [x]

set_option maxRecDepth 100000 in
set_option maxHeartbeats 4000000 in
theorem path_yes (s : Option Addr) (n c : Nat) (l : List Int) (r : Int) (sl : Option Addr) (m cl : Nat) (L : List Pr) (q : Int) (w : World) (hT : Tab w) (hW : WS w s n c l) (hL : LS w sl m cl L) (hr : rightS l r L = true) :
    Calls Tryd.prog 21 #[.slice s n c, .int .i64 r, .slice sl m cl, .int .u64 q] w fun e w' => ∃ so k co, e = .returned (.slice so k co) ∧ NS w' so k co (path l 0 q) ∧ Ext w w' := by
  have hfn : ∀ f, Fence.wide.fn f := fun _ => trivial
  have hsa := Oper.semAt_some
  have hdep : Fence.wide.depth = none := rfl
  have hR := right_any s n c l r sl m cl L w hT hW hL
  rw [hr] at hR
  have HWy : RowKit.Hid (Way l L q r (path l 0 q)) := Lib.hid (by
    obtain ⟨_, _, e1, e2⟩ := right_of.1 hr
    rw [← e1, ← e2]; exact way_of l q)
  have hlen : RowKit.Hid (l.length ≤ 256) := Lib.hid (by have := (right_of.1 hr).1; omega)
  have hpb := Lib.hid (path_bd q l.length l 0 rfl)
  obtain ⟨P, hP⟩ : ∃ P, path l 0 q = P := ⟨_, rfl⟩
  rw [hP] at HWy hpb ⊢
  have HPl : P.length ≤ 256 := by have := hpb.out.1; have := hlen.out; omega
  have HW := Lib.hid hW
  have HL := Lib.hid hL
  obtain ⟨i0, hi, hz0, hz1, hz2⟩ := info_parts infoNS
  clear hr hP hT hW hL
  refine (callsIn_wide (n := 9)).1 ?_
  refine callsIn_of_wp_marks Tryd.func21 rfl trivial ?_ rfl
  simp only [Tryd.ntmps21, List.size_toArray, List.length_cons, List.length_nil, Nat.reduceAdd, Nat.reduceSub, Array.replicate_succ, Array.replicate_zero, List.push_toArray, List.append_toArray, List.nil_append, List.cons_append]
  gi_wp2_with (first
    | (gi_at_call 13; refine (callsIn_wide.2 hR).mono ?_; rintro e w1 ⟨rfl, hE1⟩)
    | (gi_at_call 30; refine (callsIn_wide.2 (way_any _ _ _ _ _ _ _ _ _)).mono ?_; rintro e w' ⟨rfl, rfl⟩))
  have HE1 := Lib.hid hE1
  have HW1 := Lib.hid (HW.out.ext hE1)
  have HL1 := Lib.hid (HL.out.ext hE1)
  clear HW HL hE1 hR
  obtain ⟨D, hD⟩ : ∃ D, w1.heap.size = D := ⟨_, rfl⟩
  obtain ⟨W0, hW0⟩ : ∃ W0, ((((w1.alloc (.cells #[.slice none 0 0] 23)).alloc (.cells #[.slice s n c] 22)).alloc (.cells #[.int .i64 r] 3)).alloc (.cells #[.slice sl m cl] 24)).alloc (.cells #[.int .u64 q] 25) = W0 := ⟨_, rfl⟩
  have bO : Boxed W0 D 23 (.slice none 0 0) := by rw [← hW0, ← hD]; exact ((((Boxed.new w1 23 (.slice none 0 0)).alloc _).alloc _).alloc _).alloc _
  have b1 : Boxed W0 (D + 1) 22 (.slice s n c) := by
    rw [← hW0, ← hD]; have h := (((Boxed.new (w1.alloc (.cells #[.slice none 0 0] 23)) 22 (.slice s n c)).alloc (.cells #[.int .i64 r] 3)).alloc (.cells #[.slice sl m cl] 24)).alloc (.cells #[.int .u64 q] 25); simpa only [World.size_alloc] using h
  have b0 : Boxed W0 (D + 1 + 1) 3 (.int .i64 r) := by
    rw [← hW0, ← hD]; have h := ((Boxed.new ((w1.alloc (.cells #[.slice none 0 0] 23)).alloc (.cells #[.slice s n c] 22)) 3 (.int .i64 r)).alloc (.cells #[.slice sl m cl] 24)).alloc (.cells #[.int .u64 q] 25); simpa only [World.size_alloc] using h
  have b3 : Boxed W0 (D + 1 + 1 + 1) 24 (.slice sl m cl) := by
    rw [← hW0, ← hD]; have h := (Boxed.new (((w1.alloc (.cells #[.slice none 0 0] 23)).alloc (.cells #[.slice s n c] 22)).alloc (.cells #[.int .i64 r] 3)) 24 (.slice sl m cl)).alloc (.cells #[.int .u64 q] 25); simpa only [World.size_alloc] using h
  have b2 : Boxed W0 (D + 1 + 1 + 1 + 1) 25 (.int .u64 q) := by
    rw [← hW0, ← hD]; have h := Boxed.new ((((w1.alloc (.cells #[.slice none 0 0] 23)).alloc (.cells #[.slice s n c] 22)).alloc (.cells #[.int .i64 r] 3)).alloc (.cells #[.slice sl m cl] 24)) 25 (.int .u64 q); simpa only [World.size_alloc] using h
  have hE : Ext w1 W0 := by rw [← hW0]; exact (((((Ext.refl w1).alloc _).alloc _).alloc _).alloc _).alloc _
  have hsz : W0.heap.size = D + 5 := by rw [← hW0, ← hD]; simp
  rw [hW0, hD]
  clear hW0
  have HD := Lib.hid hD
  refine wpIn_rangeFunc_ownG rfl (by omega) (gf := 33) (lb := #[.pointer (some ⟨D + 1 + 1, 0, none⟩), .pointer (some ⟨D + 1, 0, none⟩), .pointer (some ⟨D + 1 + 1 + 1 + 1, 0, none⟩), .pointer (some ⟨D + 1 + 1 + 1, 0, none⟩)]) rfl trivial (enters_of Tryd.func33 (by kernel_rfl) rfl)
    (way_stops _ s n c l r sl m cl L q P (D + 1 + 1) (D + 1) (D + 1 + 1 + 1 + 1) (D + 1 + 1 + 1) w1 W0 HW1.out HL1.out HWy.out hE b0 b1 b2 b3) Keeps.trans (Keeps.put (w := W0) (by omega)) (Below.refl _ _) (fun _ => rfl)
    (fun pre W => (∃ v, Boxed W D 23 v ∧ W.ownsRow w1.heap.size 3 1 v pre.length (flatNS pre) ∧ True) ∧ Below w1.heap.size w1 W)
    (fun _ _ _ => False)
    (OwnFrom.and (Own.from (holdsRow_own w1.heap.size D 23 3 1 (fun pre : List Int => pre.length) (fun pre => flatNS pre) (fun _ _ => True)) _) (ownFrom_below (Nat.le_refl _) (by omega)))
    (fun _ _ _ _ _ hs _ _ => hs)
    ⟨⟨_, bO, World.ownsRow_nil _ _ _ _, trivial⟩, hE⟩
    (fun x => { tmps := #[.slice s n c, .int .i64 r, .slice sl m cl, .int .u64 q, undef, undef, undef, undef, .slice none 0 0, .pointer (some ⟨D, 0, none⟩), .int .i64 x, .slice s n c, .int .i64 r, .slice sl m cl, .bool true, .bool false, .slice s n c, .int .i64 r, .slice sl m cl, .int .u64 q,
      .func (.func 33) #[] #[.pointer (some ⟨D + 1 + 1, 0, none⟩), .pointer (some ⟨D + 1, 0, none⟩), .pointer (some ⟨D + 1 + 1 + 1 + 1, 0, none⟩), .pointer (some ⟨D + 1 + 1 + 1, 0, none⟩)], .int .i64 x, undef, undef, undef, undef, undef], defers := [] }) ?assign ?body ?done ?stop
  case assign =>
    intro lp x W K hK
    unfold encs
    gi_wp2
    first | exact hK | simpa using hK
  case body =>
    rintro lp pre x W ⟨⟨v, hv, hrow, _⟩, hB1⟩ hlt
    have hc := hv.cell
    have hfd : (Fence.wide.inRound lp).depth = none := rfl
    have hff : ∀ f, (Fence.wide.inRound lp).fn f := fun _ => trivial
    gi_wp2_with (gi_at_builtin; refine wpListIn_append_own _ rfl _ _ 23 rfl w1.heap.size 3 i0 (.int .i64 0) 1 8 Tryd.underlying23 hi hz0 hz1 hz2 rfl (by decide) _ _ _ rfl (hrow.alloc _) ⟨W.heap.size, 0, none⟩ 1 1 [.int .i64 x] rfl rfl (one_cell _ _) (by simp [Value.oneCell']) (by unfold maxLen; omega) (by omega) (by have := hB1.size; simp; omega) ?_; intro v' w2 hown' hgrow _; obtain ⟨g', cap', rfl⟩ := ownsRow_succ hown'; obtain ⟨hv1, hv2, hr2, hk2, hb2⟩ := hv.appended (by decide) hrow hB1.size (by omega) hown' hgrow; have hc1 := hv1.cell; have hf1 := hv1.frozen)
    have hg2 : (W.alloc (.cells #[.int .i64 x] 3)).grownBy w2 v.ownBlock := hgrow
    have kk : ∀ {B : Nat} {ty : TypeId} {vv un : Value}, ty ≠ 3 → D ≠ B → Boxed W B ty vv → Boxed (w2.setCell ⟨D, 0, none⟩ un) B ty vv := fun {B ty vv un} h1 h2 hb => ((hb.alloc _).kept hg2 (hb.not_row h1 hrow)).other (fun e => h2 e.symm) _
    exact ⟨hk2.from _, ⟨hb2, kk (by decide) (by omega), kk (by decide) (by omega), kk (by decide) (by omega)⟩,
      ⟨_, hv2, by rw [flatNS_snoc, List.length_append]; exact hr2, trivial⟩, hB1.trans hb2⟩
  case done =>
    rintro D' ys W hD' hxs ⟨⟨v, hv, hrow, _⟩, hB1⟩ hK
    obtain ⟨so, co, rfl⟩ := own_form hrow
    have hc := hv.cell
    subst hxs
    gi_wp2
    refine ⟨by simp, .inl ⟨_, _, rfl, run_takeDeferred hK, ?_⟩⟩
    have hr3 := ownsRow_putObj hrow (.deferred none) hK rfl
    refine ⟨_, results_tmp rfl _ _ _, so, _, co, rfl, NS.of_own hr3 rfl (by omega) (fun y hy => ?_), HE1.out.trans (hB1.trans (belowK_b (w := w1) (Nat.le_refl _) W D' _ _ (by omega) hK rfl rfl))⟩
    have h3 := hpb.out.2 y hy
    have h4 := hlen.out
    unfold I64; omega
  case stop =>
    rintro D c pre W _ _ h _
    exact h.elim

set_option maxHeartbeats 2000000 in
theorem path_any (s : Option Addr) (n c : Nat) (l : List Int) (r : Int) (sl : Option Addr) (m cl : Nat) (L : List Pr) (q : Int) (w : World) (hT : Tab w) (hW : WS w s n c l) (hL : LS w sl m cl L) (_ : U64 q) :
    Calls Tryd.prog 21 #[.slice s n c, .int .i64 r, .slice sl m cl, .int .u64 q] w fun e w' => ∃ so k co, e = .returned (.slice so k co) ∧ NS w' so k co (pathS l r L q) ∧ Ext w w' := by
  by_cases hr : rightS l r L = true
  · have hp : pathS l r L q = path l 0 q := by unfold pathS; rw [if_pos hr]
    rw [hp]
    exact path_yes s n c l r sl m cl L q w hT hW hL hr
  · have hr' : rightS l r L = false := by simpa using hr
    have hp : RowKit.Hid (pathS l r L q = []) := Lib.hid (by unfold pathS; rw [if_neg hr])
    have hR := right_any s n c l r sl m cl L w hT hW hL
    rw [hr'] at hR
    clear hr hr' hT hW hL
    go_enter Tryd.func21, Tryd.ntmps21
    go_wp2_with (fail)
    refine hR.mono ?_
    rintro e w1 ⟨rfl, hE1⟩
    go_wp2_with (fail)
    go_ret
    rw [hp.out]
    exact ⟨none, 0, 0, rfl, NS.empty _ _ _ (by omega), hE1⟩

/-! The least one that is not less: the last one of those that are met. -/

/-- The last one so far. -/
def upto (key : Int → Int) (q : Int) (acc : Int) (xs : List Int) : Int := xs.foldl (fun acc a => if q ≤ key a then a else acc) acc
theorem upto_snoc (key : Int → Int) (q acc : Int) (xs : List Int) (x : Int) : upto key q acc (xs ++ [x]) = if q ≤ key x then x else upto key q acc xs := by
  unfold upto; rw [List.foldl_append]; rfl

abbrev ge (q : Int) : Int → Bool := fun x => decide (q ≤ x)
theorem next_path (q : Int) (key : Int → Int) : ∀ (n : Nat) (s : List Int) (off : Nat) (acc : Int), s.length = n → Rising s → (∀ (i : Nat) k, s[i]? = some k → key ((off + i + 1 : Nat) : Int) = k) →
    upto key q acc (path s off q) = if num (ge q) s = 0 then acc else ((off + num (ge q) s : Nat) : Int) := by
  intro n
  induction n using Nat.strongRecOn with
  | ind n ih =>
    intro s off acc hs hr hk
    by_cases h : s = []
    · subst h; rw [path_nil]; rfl
    · have ht := top_is s h
      obtain ⟨m, hm, _⟩ := id ht
      have hlt := ht.lt
      rw [path_at ht hm]
      have hkm := hk _ _ hm
      unfold upto
      rw [List.foldl_cons, hkm]
      have fold : ∀ a xs, List.foldl (fun acc a => if q ≤ key a then a else acc) a xs = upto key q a xs := fun _ _ => rfl
      rw [fold]
      rcases Int.lt_trichotomy q m with c | c | c
      · rw [if_pos (by omega), if_pos c, ih (s.take (top s)).length (by simp; omega) (s.take (top s)) off _ rfl (hr.take _) (fun i k hi => by
          rw [List.getElem?_take] at hi
          split at hi
          · exact hk i k hi
          · cases hi)]
        rcases num_inv (ge q) (s.take (top s)) with ⟨e, hz⟩ | ⟨i, x, e, h1, h2, h3⟩
        · have : num (ge q) s = top s + 1 := num_hit (fun j y hj hy => hz j y (by rw [List.getElem?_take, if_pos hj]; exact hy)) hm (decide_eq_true (by omega))
          rw [if_pos e, this, if_neg (by omega)]; rfl
        · have hi : i < top s := by have := (List.getElem?_eq_some_iff.1 h1).1; simp at this; omega
          rw [List.getElem?_take, if_pos hi] at h1
          have : num (ge q) s = i + 1 := num_hit (fun j y hj hy => h3 j y hj (by rw [List.getElem?_take, if_pos (by omega)]; exact hy)) h1 h2
          rw [if_neg (by omega), this, e, if_neg (by omega)]
      · subst c
        rw [if_pos (Int.le_refl _), if_neg (by omega), if_neg (by omega)]
        have : num (ge q) s = top s + 1 := num_hit (fun j y hj hy => decide_eq_false (by have := hr.lt hy hm hj; omega)) hm (decide_eq_true (Int.le_refl _))
        rw [this, if_neg (by omega)]; rfl
      · rw [if_neg (by omega), if_neg (by omega), if_pos c, ih (s.drop (top s + 1)).length (by simp; omega) (s.drop (top s + 1)) (off + top s + 1) _ rfl (hr.drop _) (fun i k hi => by
          rw [List.getElem?_drop] at hi
          have := hk _ _ hi
          rw [show off + top s + 1 + i + 1 = off + (top s + 1 + i) + 1 by omega]; exact this)]
        have low : ∀ (j : Nat) y, j < top s + 1 → s[j]? = some y → ge q y = false := fun j y hj hy => decide_eq_false (by
          by_cases e : j = top s
          · subst e; rw [hm] at hy; cases hy; omega
          · have := hr.lt hy hm (by omega); omega)
        rcases num_inv (ge q) (s.drop (top s + 1)) with ⟨e, hz⟩ | ⟨i, x, e, h1, h2, h3⟩
        · have : num (ge q) s = 0 := num_none (fun j y hy => by
            by_cases hj : j < top s + 1
            · exact low j y hj hy
            · exact hz (j - (top s + 1)) y (by rw [List.getElem?_drop, show top s + 1 + (j - (top s + 1)) = j by omega]; exact hy))
          rw [if_pos e, if_pos this]
        · rw [List.getElem?_drop] at h1
          have : num (ge q) s = top s + 1 + i + 1 := num_hit (fun j y hj hy => by
            by_cases hj' : j < top s + 1
            · exact low j y hj' hy
            · exact h3 (j - (top s + 1)) y (by omega) (by rw [List.getElem?_drop, show top s + 1 + (j - (top s + 1)) = j by omega]; exact hy)) h1 h2
          rw [if_neg (by omega), if_neg (by omega), this, e]
          congr 1
          omega

/-- The key of a number. -/
def keyAt (l : List Int) (a : Int) : Int := (l[(a - 1).toNat]?).getD 0
theorem keyAt_at {l : List Int} {i : Nat} {k : Int} (h : l[i]? = some k) : keyAt l ((0 + i + 1 : Nat) : Int) = k := by
  unfold keyAt
  rw [show (((0 + i + 1 : Nat) : Int) - 1).toNat = i by omega, h]; rfl

set_option maxHeartbeats 4000000 in
set_option maxRecDepth 100000 in
theorem next_any (s : Option Addr) (n c : Nat) (l : List Int) (r : Int) (sl : Option Addr) (m cl : Nat) (L : List Pr) (q : Int) (w : World) (hT : Tab w) (hW : WS w s n c l) (hL : LS w sl m cl L) (hq : U64 q) :
    Calls Tryd.prog 18 #[.slice s n c, .int .i64 r, .slice sl m cl, .int .u64 q] w fun e w' => e = .returned (.tuple #[.int .i64 (nextS l r L q).1, .bool (nextS l r L q).2]) ∧ Ext w w' := by
  have hPa := path_any s n c l r sl m cl L q w hT hW hL hq
  have hn := hW.le
  obtain ⟨P, hP⟩ : ∃ P, pathS l r L q = P := ⟨_, rfl⟩
  have hfin : RowKit.Hid ((nextS l r L q) = (upto (keyAt l) q 0 P, decide (upto (keyAt l) q 0 P ≠ 0))) := Lib.hid (by
    rw [← hP]
    unfold nextS pathS
    by_cases hr : rightS l r L = true
    · have hR := (right_of.1 hr).2.1
      rw [if_pos hr, if_pos hr, next_path q (keyAt l) l.length l 0 0 rfl hR (fun i k hi => keyAt_at hi)]
      by_cases h0 : num (ge q) l = 0
      · rw [if_pos h0]; simp [h0]
      · rw [if_neg h0]; simp only [Nat.zero_add]; refine Prod.ext rfl ?_
        show decide _ = decide _
        congr 1
        simp
    · rw [if_neg hr, if_neg hr]; rfl)
  have hbd : RowKit.Hid (∀ x ∈ P, ∃ i : Nat, x = (i : Int) + 1 ∧ i < n) := Lib.hid (fun x hx => by
    rw [← hP] at hx
    unfold pathS at hx
    split at hx
    · have := (path_bd q l.length l 0 rfl).2 x hx
      have hl := hW.len
      exact ⟨(x - 1).toNat, by omega, by omega⟩
    · cases hx)
  rw [hP] at hPa
  have HW := Lib.hid hW
  clear hP hT hW hL hq
  go_enter Tryd.func18, Tryd.ntmps18
  go_wp2_with (fail)
  refine hPa.mono ?_
  rintro e w1 ⟨so, k, co, rfl, hN, hE1⟩
  have HN := Lib.hid hN
  have hk := hN.le
  have HE1 := Lib.hid hE1
  have HW1 := Lib.hid (HW.out.ext hE1)
  clear HW hN hE1 hPa
  go_wp2_with (fail)
  go_loopw [10, 19] (fun lv iv wr => ∃ (a : Int) (i : Nat), i ≤ k ∧ lv = .int .i64 a ∧ iv = .int .i64 i ∧ wr = w1 ∧ RowKit.Hid (a = upto (keyAt l) q 0 (P.take i))) (fun _ i _ => k - (RowKit.intOf i).toNat)
  case atStart => exact ⟨0, 0, by omega, rfl, rfl, rfl, Lib.hid rfl⟩
  case round =>
    obtain ⟨a, i, hik, rfl, rfl, rfl, hA⟩ := hrel
    by_cases hi : i < k
    · have hii : (i : Int) < k := by omega
      obtain ⟨x, hx, ix, b, o, rfl, cx⟩ := HN.out.get (k := i) hi
      obtain ⟨j, rfl, hj⟩ := hbd.out x (List.mem_of_getElem? hx)
      obtain ⟨y, hy, uy, b', o', rfl, cy⟩ := HW1.out.get (k := j) hj
      have hw1 : IntKind.i64.wrap ((j : Int) + 1 - 1) = j := by rw [IntWalk.i64_in _ (by omega)]; omega
      have hw2 : IntKind.i64.wrap (j : Int) = j := IntWalk.i64_in _ (by omega)
      have hjn : (j : Int) < n := by omega
      have hky : RowKit.Hid (keyAt l ((j : Int) + 1) = y) := Lib.hid (by have := keyAt_at hy; rwa [show ((0 + j + 1 : Nat) : Int) = (j : Int) + 1 by omega] at this)
      have hsn : RowKit.Hid (upto (keyAt l) q 0 (P.take (i + 1)) = if q ≤ y then (j : Int) + 1 else a) := Lib.hid (by rw [take_snoc hx, upto_snoc, hky.out, hA.out])
      clear hx hy
      by_cases hb : q ≤ y
      · have hdb : decide (q ≤ y) = true := decide_eq_true hb
        have hN2 : RowKit.Hid ((j : Int) + 1 = upto (keyAt l) q 0 (P.take (i + 1))) := Lib.hid (by rw [hsn.out, if_pos hb])
        clear hsn
        go_wp2_with (fail)
        go_roundw
        case rel => exact ⟨_, i + 1, by omega, rfl, by go_num, trivial, hN2⟩
        case measure => simp [RowKit.intOf]; omega
      · have hdb : decide (q ≤ y) = false := decide_eq_false hb
        have hN2 : RowKit.Hid (a = upto (keyAt l) q 0 (P.take (i + 1))) := Lib.hid (by rw [hsn.out, if_neg hb])
        clear hsn
        go_wp2_with (fail)
        go_roundw
        case rel => exact ⟨_, i + 1, by omega, rfl, by go_num, trivial, hN2⟩
        case measure => simp [RowKit.intOf]; omega
    · obtain rfl : i = k := by omega
      go_wp2_with (fail)
      go_ret2
      have e : P.take i = P := List.take_of_length_le (by rw [HN.out.len]; exact Nat.le_refl _)
      have e2 := hA.out
      rw [e] at e2
      rw [hfin.out, ← e2]
      refine ⟨?_, HE1.out⟩
      congr 4
      by_cases h : a = 0 <;> simp [h, bne]

/-- What Find's answer is, by Next's. -/
theorem find_next {l : List Int} (hr : Rising l) (q : Int) : (num (ge q) l = 0 → num (fun x => x == q) l = 0) ∧ ∀ (i : Nat) x, num (ge q) l = i + 1 → l[i]? = some x → num (fun x => x == q) l = if x = q then i + 1 else 0 := by
  constructor
  · intro h
    rcases num_inv (ge q) l with ⟨_, hz⟩ | ⟨i, x, e, _⟩
    · exact num_none (fun j y hy => by have := of_decide_eq_false (hz j y hy); simp; omega)
    · omega
  · intro i x h hx
    rcases num_inv (ge q) l with ⟨e, _⟩ | ⟨i', x', e, h1, h2, h3⟩
    · omega
    · obtain rfl : i = i' := by omega
      rw [hx] at h1; cases h1
      have hge := of_decide_eq_true h2
      by_cases c : x = q
      · rw [if_pos c]
        exact num_hit (fun j y hj hy => by have := of_decide_eq_false (h3 j y hj hy); simp; omega) hx (by simp [c])
      · rw [if_neg c]
        refine num_none (fun j y hy => ?_)
        rcases Nat.lt_trichotomy j i with d | d | d
        · have := of_decide_eq_false (h3 j y d hy); simp; omega
        · subst d; rw [hx] at hy; cases hy; simpa using c
        · have := hr.lt hx hy d; simp; omega

set_option maxHeartbeats 4000000 in
set_option maxRecDepth 100000 in
theorem find_any (s : Option Addr) (n c : Nat) (l : List Int) (r : Int) (sl : Option Addr) (m cl : Nat) (L : List Pr) (q : Int) (w : World) (hT : Tab w) (hW : WS w s n c l) (hL : LS w sl m cl L) (hq : U64 q) :
    Calls Tryd.prog 16 #[.slice s n c, .int .i64 r, .slice sl m cl, .int .u64 q] w fun e w' => e = .returned (.tuple #[.int .i64 (findS l r L q).1, .bool (findS l r L q).2]) ∧ Ext w w' := by
  have hNx := next_any s n c l r sl m cl L q w hT hW hL hq
  have hn := hW.le
  have HW := Lib.hid hW
  clear hT hW hL hq
  have none : (nextS l r L q) = (0, false) → (findS l r L q) = (0, false) → Calls Tryd.prog 16 #[.slice s n c, .int .i64 r, .slice sl m cl, .int .u64 q] w fun e w' => e = .returned (.tuple #[.int .i64 (findS l r L q).1, .bool (findS l r L q).2]) ∧ Ext w w' := fun h1 h2 => by
    rw [h1] at hNx
    rw [h2]
    go_enter Tryd.func16, Tryd.ntmps16
    go_wp2_with (fail)
    refine hNx.mono ?_
    rintro e w1 ⟨rfl, hE1⟩
    go_wp2_with (fail)
    go_ret2
    exact ⟨rfl, hE1⟩
  by_cases hr : rightS l r L = true
  · have hR := (right_of.1 hr).2.1
    obtain ⟨f1, f2⟩ := find_next hR q
    have en : nextS l r L q = (((num (ge q) l : Nat) : Int), decide (num (ge q) l ≠ 0)) := by unfold nextS; rw [if_pos hr]
    have ef : findS l r L q = (((num (fun x => x == q) l : Nat) : Int), decide (num (fun x => x == q) l ≠ 0)) := by unfold findS; rw [if_pos hr]
    rcases num_inv (ge q) l with ⟨e, _⟩ | ⟨i, x, e, h1, _⟩
    · exact none (by rw [en, e]; rfl) (by rw [ef, f1 e]; rfl)
    · have h2 := f2 i x e h1
      rw [h2] at ef
      rw [en, e] at hNx
      have e2 : decide (i + 1 ≠ 0) = true := by simp
      rw [e2] at hNx
      have hin : i < n := by rw [← HW.out.len]; exact (List.getElem?_eq_some_iff.1 h1).1
      have HX := Lib.hid h1
      have HF := Lib.hid ef
      clear none hr hR f1 f2 en ef e h1 h2 e2
      go_enter Tryd.func16, Tryd.ntmps16
      go_wp2_with (fail)
      refine hNx.mono ?_
      rintro e w1 ⟨rfl, hE1⟩
      have HE1 := Lib.hid hE1
      obtain ⟨y, hy, uy, b, o, rfl, cy⟩ := (HW.out.ext hE1).get (k := i) hin
      obtain rfl : x = y := by have := HX.out; rw [hy] at this; exact (Option.some.inj this).symm
      have hw1 : IntKind.i64.wrap ((i : Int) + 1 - 1) = i := by rw [IntWalk.i64_in _ (by omega)]; omega
      have hw2 : IntKind.i64.wrap (i : Int) = i := IntWalk.i64_in _ (by omega)
      have hjn : (i : Int) < n := by omega
      clear hNx hE1 hy HX
      by_cases hc : x = q
      · have hb : (x != q) = false := by simp [hc]
        have HF2 : RowKit.Hid (findS l r L q = (((i : Int) + 1), true)) := Lib.hid (by rw [HF.out, if_pos hc]; simp)
        clear hc HF
        go_wp2_with (fail)
        go_ret2
        rw [HF2.out]
        exact ⟨rfl, HE1.out⟩
      · have hb : (x != q) = true := by simp [hc]
        have HF2 : RowKit.Hid (findS l r L q = (0, false)) := Lib.hid (by rw [HF.out, if_neg hc]; rfl)
        clear hc HF
        go_wp2_with (fail)
        go_ret2
        rw [HF2.out]
        exact ⟨rfl, HE1.out⟩
  · exact none (by unfold nextS; rw [if_neg hr]) (by unfold findS; rw [if_neg hr])

end Go.Proofs.YtnmeakkehonnmaaDoor.Trp
