/-
  Parts of a proof, one behind the other: LawRead, LawRead2. Each says its own conditions.
-/
import Derived.Test.YtdipddnnckfnmaaGreatM24
import Derived.OpenShut
import Derived.Carry
import Derived.Lib.SmallJoins

/- LawRead:
  Arguments that are ints and slices of triples of ints, opened; and the last step of a statement whose call returns true and leaves all that was there as it was. Condition: they are readable, as a statement's arguments are.
-/
set_option maxRecDepth 100000
namespace Go.Proofs.YtdipddnnckfnmaaGreat.Law
open Go.ChangeShapes Go.WideShapes Go.ChangeAt Go.RowKit Go.Joins Go.Deep
open Go.Proofs.YtdipddnnckfnmaaGreat.Aut (Ext I64 U64 add_is)

theorem i64_of {x : Int} (h : (Lit.int .i64 x).wf = true) : I64 x := by have := bounds_i64 h; unfold I64; omega
theorem u64_of {x : Int} (h : (Lit.int .u64 x).wf = true) : U64 x := by have := bounds_u64 h; unfold U64; omega

theorem list2 {α : Type} {l : List α} (h : l.length = 2) : ∃ a b, l = [a, b] := by
  match l, h with
  | [a, b], _ => exact ⟨a, b, rfl⟩
theorem list3 {α : Type} {l : List α} (h : l.length = 3) : ∃ a b c, l = [a, b, c] := by
  match l, h with
  | [a, b, c], _ => exact ⟨a, b, c, rfl⟩

section
variable {H : Type} {enc : TypeId × Value → H} {W : World} {base : Nat} {spare : Nat → Bool} {held : Bool} {fuel : Nat}

/-- Three ints' cells. -/
theorem trip_cells {cs : List Value} {x : DataW H × List MemPlace} (h : DataW.trod enc Tryz.prog W base spare held fuel 22 cs = some x) :
    ∃ a b c : Int, cs = [.int .i64 a, .int .i64 b, .int .i64 c] ∧ I64 a ∧ I64 b ∧ I64 c := by
  obtain ⟨ys, m, _, _, hlen, hys, hg⟩ := DataW.trod_array Tryz.underlying22 h
  have hl : cs.length = 3 := hlen.trans (by kernel_rfl)
  obtain ⟨c0, c1, c2, rfl⟩ := list3 hl
  have k2 : Tryz.prog.cellsOf 3 = 1 := by kernel_rfl
  have i0 := hg 0 (by omega)
  have i1 := hg 1 (by omega)
  have i2 := hg 2 (by omega)
  simp [k2, hys] at i0 i1 i2
  obtain ⟨a, ea, _, wa⟩ := DataW.trod_int Tryz.underlying3 i0
  obtain ⟨b, eb, _, wb⟩ := DataW.trod_int Tryz.underlying3 i1
  obtain ⟨c, ec, _, wc⟩ := DataW.trod_int Tryz.underlying3 i2
  cases ea; cases eb; cases ec
  exact ⟨a, b, c, rfl, i64_of wa, i64_of wb, i64_of wc⟩
end

theorem addr_none {W : World} {a : Addr} (h0 : ∃ u, W.cell? a = some u) : a = ⟨a.block, a.off, none⟩ := by
  have hs : a.spot = none := by
    obtain ⟨u, hu⟩ := h0
    unfold World.cell? at hu
    split at hu
    · split at hu
      · cases hu
      · rename_i hns
        simpa using hns
    · cases hu
  obtain ⟨b, o, sp⟩ := a
  simp only at hs
  subst hs
  rfl

/-- A slice, opened: each element's cells. -/
theorem open_any {H : Type} {enc : TypeId × Value → H} {W : World} {base : Nat} {v : Value} {d : DataW H} {p : List MemPlace} {t e : TypeId} {k : Nat} {Q : List Value → Prop} (ht : Tryz.prog.underlying t = some (.slice e)) (hk : Tryz.prog.cellsOf e = k) (hk0 : 0 < k)
    (hQ : ∀ {spare : Nat → Bool} {base : Nat} {held : Bool} {fuel : Nat} {cs : List Value} {x : DataW H × List MemPlace}, DataW.trod enc Tryz.prog W base spare held fuel e cs = some x → Q cs)
    (hv : Value.okWide Tryz.prog W .any base t v) (h : DataW.Trod enc Tryz.prog W 0 (fun _ => true) true t v d p) :
    ∃ (sl : Option Addr) (n c : Nat), v = .slice sl n c ∧ n ≤ c ∧ c ≤ maxLen ∧ ∀ i, i < n → ∃ b o, sl = some ⟨b, o, none⟩ ∧ ∃ cs, Q cs ∧ ∀ j u, cs[j]? = some u → W.cell? ⟨b, o + i * k + j, none⟩ = some u := by
  obtain ⟨a, n, c, rfl⟩ := okWide_slice ht hv
  obtain ⟨fuel, hf⟩ := h
  rcases open_slice ht hf with ⟨hcs, _⟩ | ⟨a', len, cap, m, n', D, Pl, hcs, _, hl, hcap, hm, _, hel⟩
  · simp [Value.cells] at hcs
    exact ⟨a, n, c, rfl, by omega, by rw [hcs.2.2]; exact Nat.zero_le _, fun i hi => by omega⟩
  · simp [Value.cells] at hcs
    obtain ⟨rfl, rfl, rfl⟩ := hcs
    simp at hm
    have key : ∀ i, i < n → ∃ cs, Q cs ∧ cs.length = k ∧ ∀ j u, cs[j]? = some u → W.cell? (a'.add (i * k + j)) = some u := by
      intro i hi
      obtain ⟨cs', h1, h2⟩ := hel i (by omega)
      rw [hk] at h1
      obtain ⟨_, hlen, hc⟩ := World.cells?_some h1
      refine ⟨cs', hQ h2, hlen, fun j u hu => ?_⟩
      obtain ⟨hjl, _⟩ := List.getElem?_eq_some_iff.1 hu
      have h3 := hc j (by omega)
      rw [hu] at h3
      rw [show a'.add (i * k + j) = (a'.add (i * k)).add j by
        unfold Addr.add
        by_cases h1 : i * k = 0 <;> by_cases h2 : j = 0 <;> simp [h1, h2, Nat.add_assoc]]
      exact h3
    refine ⟨some a', n, c, rfl, hl, hcap, fun i hi => ?_⟩
    obtain ⟨c0, _, hl0, h0⟩ := key 0 (by omega)
    have ha : a' = ⟨a'.block, a'.off, none⟩ := addr_none ⟨c0[0]'(by omega), by
      have := h0 0 _ (List.getElem?_eq_getElem (by omega))
      simpa [Addr.add] using this⟩
    obtain ⟨cs, hq, _, hc⟩ := key i hi
    refine ⟨a'.block, a'.off, congrArg some ha, cs, hq, fun j u hu => ?_⟩
    have h3 := hc j u hu
    rw [ha, add_is] at h3
    rw [Nat.add_assoc]; exact h3

/-- Triples, opened. -/
theorem open_ts {H : Type} {enc : TypeId × Value → H} {W : World} {base : Nat} {v : Value} {d : DataW H} {p : List MemPlace} (hv : Value.okWide Tryz.prog W .any base 25 v) (h : DataW.Trod enc Tryz.prog W 0 (fun _ => true) true 25 v d p) :
    ∃ (sl : Option Addr) (n c : Nat), v = .slice sl n c ∧ TS W sl n := by
  obtain ⟨sl, n, c, rfl, h1, h2, h3⟩ := open_any (k := 3) (Q := fun cs => ∃ a b c : Int, cs = [.int .i64 a, .int .i64 b, .int .i64 c] ∧ I64 a ∧ I64 b ∧ I64 c) Tryz.underlying25 (by kernel_rfl) (by decide) trip_cells hv h
  unfold maxLen at h2
  refine ⟨sl, n, c, rfl, by omega, fun j hj => ?_⟩
  obtain ⟨b, o, e, cs, ⟨x, y, z, rfl, hx, hy, hz⟩, hc⟩ := h3 j hj
  exact ⟨x, y, z, hx, hy, hz, b, o, e, by simpa using hc 0 _ rfl, by simpa using hc 1 _ rfl, by simpa using hc 2 _ rfl⟩

/-- A list out of what there is at each place. -/
theorem list_of {α : Type} (F : Nat → α → Prop) : ∀ n : Nat, (∀ i, i < n → ∃ x, F i x) → ∃ xs : List α, xs.length = n ∧ ∀ (j : Nat) (x : α), xs[j]? = some x → F j x
  | 0, _ => ⟨[], rfl, fun j x h => by simp at h⟩
  | n + 1, h => by
    obtain ⟨xs, hl, hx⟩ := list_of F n (fun i hi => h i (by omega))
    obtain ⟨x, hn⟩ := h n (by omega)
    refine ⟨xs ++ [x], by simp [hl], fun j y hj => ?_⟩
    rw [List.getElem?_append] at hj
    split at hj
    · exact hx j y hj
    · rename_i hlt
      have : j - xs.length = 0 := by
        have := (List.getElem?_eq_some_iff.1 hj).1; simp at this; omega
      rw [this] at hj
      simp at hj
      subst hj
      rw [show j = n by omega]; exact hn

theorem laidOut : laidOutB Tryz.prog = true := by kernel_rfl

theorem all_read {H : Type} {enc : TypeId × Value → H} {W W' : World} (hb : Below W.heap.size W W') : ∀ {ts : List TypeId} {vs : List Value} {ds : List (DataW H)} {ps : List MemPlace},
    (∀ t ∈ ts, Tryz.prog.readableRec t = true ∧ t < Tryz.prog.types.size) → (∀ x ∈ ps, x.block < W.heap.size) → DataW.TrodAll enc Tryz.prog W 0 (fun _ => true) true ts vs ds ps →
    DataW.TrodAll enc Tryz.prog W' 0 (fun b => decide (b < W.heap.size)) true ts vs ds ps
  | [], [], [], _, _, _, h => h
  | t :: _, _ :: _, _ :: _, _, ht, hl, ⟨p, q, h1, h2, e⟩ =>
    ⟨p, q, Below.trod laidOut (ht t (by simp)).1 (ht t (by simp)).2 h1 hb (fun x hx => hl x (by rw [e]; exact List.mem_append_left _ hx)),
      all_read hb (fun u hu => ht u (by simp [hu])) (fun x hx => hl x (by rw [e]; exact List.mem_append_right _ hx)) h2, e⟩

/-- What a statement asks, behind a call that returned true. -/
theorem told {H : Type} {enc : TypeId × Value → H} {f : Func} {s : ChangeSpec} {W W' : World} {args : Array Value} {ds gs : List (DataW H)} {before : List MemPlace}
    (hW : DataW.Whole enc Tryz.prog f.params.toList s.vars false W args.toList ds gs before) (hv : s.vars = []) (hf : s.fn H ds = { results := [.lit (.bool true)], args := ds }) (hr : f.resultTypes = #[4])
    (hp : (f.params.toList.all fun t => Tryz.prog.readableRec t && decide (t < Tryz.prog.types.size)) = true) (hg : Ext W W') : s.post enc Tryz.prog f false true false false W args (.bool true) W' := by
  have hlt : ∀ p ∈ before, p.block < W.heap.size := fun p hp => hW.lt p hp
  have hW' := hW
  obtain ⟨p, q, hA, hV, e, _, _⟩ := hW
  rw [hv] at hV
  obtain ⟨rfl, rfl⟩ := trodVars_none hV
  rw [List.append_nil] at e
  subst e
  refine ⟨ds, [], before, [], before, [], hW', ?_, ?_, ?_, Below.frame hg _, fun h => by cases h⟩
  · rw [List.append_nil, hf, hr]
    exact trodAll_cons_mk (shut_bool Tryz.underlying4 _) trodAll_mk0
  · rw [List.append_nil, hf]
    refine all_read hg (fun t ht => ?_) hlt hA
    have := List.all_eq_true.1 hp t ht
    simpa using this
  · rw [List.append_nil, hf, hv]
    rfl

theorem own : ownKnob Tryz.prog.godebug = none := by kernel_rfl

end Go.Proofs.YtdipddnnckfnmaaGreat.Law

/- LawRead2:
  An array of three ints as an argument, opened. Condition: it is readable, as a statement's arguments are.
-/
set_option maxRecDepth 100000
namespace Go.Proofs.YtdipddnnckfnmaaGreat.Law
open Go.ChangeShapes Go.WideShapes Go.ChangeAt Go.RowKit Go.Joins Go.Deep
open Go.Proofs.YtdipddnnckfnmaaGreat.Aut (Ext I64 U64 add_is)

theorem open_trip {H : Type} {enc : TypeId × Value → H} {W : World} {base : Nat} {v : Value} {d : DataW H} {p : List MemPlace} (hv : Value.okWide Tryz.prog W .any base 22 v) (h : DataW.Trod enc Tryz.prog W 0 (fun _ => true) true 22 v d p) : ∃ a b c : Int, v = .agg #[.int .i64 a, .int .i64 b, .int .i64 c] ∧ I64 a ∧ I64 b ∧ I64 c := by
  obtain ⟨cs, rfl, hsz, _⟩ : ∃ cs, v = .agg cs ∧ cs.size = Tryz.prog.cellsOf 22 ∧ Row.okWide Tryz.prog W .any base 22 cs := by
    simpa [Value.okWide, Tryz.underlying22] using hv
  rw [show Tryz.prog.cellsOf 22 = 3 by kernel_rfl] at hsz
  obtain ⟨l⟩ := cs
  obtain ⟨c0, c1, c2, rfl⟩ := list3 hsz
  obtain ⟨fuel, hf⟩ := h
  obtain ⟨ys, m, _, _, hlen, hys, hg⟩ := DataW.trod_array Tryz.underlying22 hf
  have k2 : Tryz.prog.cellsOf 3 = 1 := by kernel_rfl
  have i0 := hg 0 (by omega)
  have i1 := hg 1 (by omega)
  have i2 := hg 2 (by omega)
  simp [k2, hys, Value.cells] at i0 i1 i2
  obtain ⟨a, ea, _, wa⟩ := DataW.trod_int Tryz.underlying3 i0
  obtain ⟨b, eb, _, wb⟩ := DataW.trod_int Tryz.underlying3 i1
  obtain ⟨c, ec, _, wc⟩ := DataW.trod_int Tryz.underlying3 i2
  cases ea; cases eb; cases ec
  exact ⟨a, b, c, rfl, i64_of wa, i64_of wb, i64_of wc⟩

end Go.Proofs.YtdipddnnckfnmaaGreat.Law

