/-
  Parts of a proof, one behind the other: LawRead, LawRead2, LawOpen, EncLaidR, EncLaidM, EncHome. Each says its own conditions.
-/
import Derived.Test.YtmonkcekkhfafaaGreatDoorM04
import Derived.Test.YtmonkcekkhfafaaGreatDoorM05
import Derived.Test.YtmonkcekkhfafaaGreatDoorM08
import Derived.Test.YtmonkcekkhfafaaGreatDoorM16
import Derived.Test.YtmonkcekkhfafaaGreatDoorM28
import Derived.OpenShut
import Derived.Carry
import Derived.Lib.SmallJoins
import Derived.Test.YtmonkcekkhfafaaGreatDoorRows
import Derived.Lib.LaidU8

/- LawRead:
  Arguments that are ints and slices of triples of ints, opened; and the last step of a statement whose call returns true and leaves all that was there as it was. Condition: they are readable, as a statement's arguments are.
-/
set_option maxRecDepth 100000
namespace Go.Proofs.YtmonkcekkhfafaaGreatDoor.Law
open Go.ChangeShapes Go.WideShapes Go.ChangeAt Go.RowKit Go.Joins Go.Deep
open Go.Proofs.YtmonkcekkhfafaaGreatDoor.Aut (Ext I64 U64 add_is)

theorem i64_of {x : Int} (h : (Lit.int .i64 x).wf = true) : I64 x := by have := bounds_i64 h; unfold I64; omega
theorem u64_of {x : Int} (h : (Lit.int .u64 x).wf = true) : U64 x := by have := bounds_u64 h; unfold U64; omega

theorem list3 {α : Type} {l : List α} (h : l.length = 3) : ∃ a b c, l = [a, b, c] := by
  match l, h with
  | [a, b, c], _ => exact ⟨a, b, c, rfl⟩

section
variable {H : Type} {enc : TypeId × Value → H} {W : World} {base : Nat} {spare : Nat → Bool} {held : Bool} {fuel : Nat}

/-- Three ints' cells. -/
theorem trip_cells {cs : List Value} {x : DataW H × List MemPlace} (h : DataW.trod enc Tryz.prog W base spare held fuel 22 cs = some x) :
    ∃ a b c : Int, cs = [.int .i64 a, .int .i64 b, .int .i64 c] ∧ I64 a ∧ I64 b ∧ I64 c := by
  obtain ⟨ys, m, _, _, hlen, hys, hg⟩ := DataW.trod_array Tryz.underlying22 h
  have hl : cs.length = 3 := hlen.trans (by kernel_rfl)
  obtain ⟨c0, c1, c2, rfl⟩ := list3 hl
  have k2 : Tryz.prog.cellsOf 3 = 1 := by kernel_rfl
  have i0 := hg 0 (by omega)
  have i1 := hg 1 (by omega)
  have i2 := hg 2 (by omega)
  simp [k2, hys] at i0 i1 i2
  obtain ⟨a, ea, _, wa⟩ := DataW.trod_int Tryz.underlying3 i0
  obtain ⟨b, eb, _, wb⟩ := DataW.trod_int Tryz.underlying3 i1
  obtain ⟨c, ec, _, wc⟩ := DataW.trod_int Tryz.underlying3 i2
  cases ea; cases eb; cases ec
  exact ⟨a, b, c, rfl, i64_of wa, i64_of wb, i64_of wc⟩
end

theorem addr_none {W : World} {a : Addr} (h0 : ∃ u, W.cell? a = some u) : a = ⟨a.block, a.off, none⟩ := by
  have hs : a.spot = none := by
    obtain ⟨u, hu⟩ := h0
    unfold World.cell? at hu
    split at hu
    · split at hu
      · cases hu
      · rename_i hns
        simpa using hns
    · cases hu
  obtain ⟨b, o, sp⟩ := a
  simp only at hs
  subst hs
  rfl

/-- A slice, opened: each element's cells. -/
theorem open_any {H : Type} {enc : TypeId × Value → H} {W : World} {base : Nat} {v : Value} {d : DataW H} {p : List MemPlace} {t e : TypeId} {k : Nat} {Q : List Value → Prop} (ht : Tryz.prog.underlying t = some (.slice e)) (hk : Tryz.prog.cellsOf e = k) (hk0 : 0 < k)
    (hQ : ∀ {spare : Nat → Bool} {base : Nat} {held : Bool} {fuel : Nat} {cs : List Value} {x : DataW H × List MemPlace}, DataW.trod enc Tryz.prog W base spare held fuel e cs = some x → Q cs)
    (hv : Value.okWide Tryz.prog W .any base t v) (h : DataW.Trod enc Tryz.prog W 0 (fun _ => true) true t v d p) :
    ∃ (sl : Option Addr) (n c : Nat), v = .slice sl n c ∧ n ≤ c ∧ c ≤ maxLen ∧ ∀ i, i < n → ∃ b o, sl = some ⟨b, o, none⟩ ∧ ∃ cs, Q cs ∧ ∀ j u, cs[j]? = some u → W.cell? ⟨b, o + i * k + j, none⟩ = some u := by
  obtain ⟨a, n, c, rfl⟩ := okWide_slice ht hv
  obtain ⟨fuel, hf⟩ := h
  rcases open_slice ht hf with ⟨hcs, _⟩ | ⟨a', len, cap, m, n', D, Pl, hcs, _, hl, hcap, hm, _, hel⟩
  · simp [Value.cells] at hcs
    exact ⟨a, n, c, rfl, by omega, by rw [hcs.2.2]; exact Nat.zero_le _, fun i hi => by omega⟩
  · simp [Value.cells] at hcs
    obtain ⟨rfl, rfl, rfl⟩ := hcs
    simp at hm
    have key : ∀ i, i < n → ∃ cs, Q cs ∧ cs.length = k ∧ ∀ j u, cs[j]? = some u → W.cell? (a'.add (i * k + j)) = some u := by
      intro i hi
      obtain ⟨cs', h1, h2⟩ := hel i (by omega)
      rw [hk] at h1
      obtain ⟨_, hlen, hc⟩ := World.cells?_some h1
      refine ⟨cs', hQ h2, hlen, fun j u hu => ?_⟩
      obtain ⟨hjl, _⟩ := List.getElem?_eq_some_iff.1 hu
      have h3 := hc j (by omega)
      rw [hu] at h3
      rw [show a'.add (i * k + j) = (a'.add (i * k)).add j by
        unfold Addr.add
        by_cases h1 : i * k = 0 <;> by_cases h2 : j = 0 <;> simp [h1, h2, Nat.add_assoc]]
      exact h3
    refine ⟨some a', n, c, rfl, hl, hcap, fun i hi => ?_⟩
    obtain ⟨c0, _, hl0, h0⟩ := key 0 (by omega)
    have ha : a' = ⟨a'.block, a'.off, none⟩ := addr_none ⟨c0[0]'(by omega), by
      have := h0 0 _ (List.getElem?_eq_getElem (by omega))
      simpa [Addr.add] using this⟩
    obtain ⟨cs, hq, _, hc⟩ := key i hi
    refine ⟨a'.block, a'.off, congrArg some ha, cs, hq, fun j u hu => ?_⟩
    have h3 := hc j u hu
    rw [ha, add_is] at h3
    rw [Nat.add_assoc]; exact h3

/-- Triples, opened. -/
theorem open_ts {H : Type} {enc : TypeId × Value → H} {W : World} {base : Nat} {v : Value} {d : DataW H} {p : List MemPlace} (hv : Value.okWide Tryz.prog W .any base 25 v) (h : DataW.Trod enc Tryz.prog W 0 (fun _ => true) true 25 v d p) :
    ∃ (sl : Option Addr) (n c : Nat), v = .slice sl n c ∧ TS W sl n := by
  obtain ⟨sl, n, c, rfl, h1, h2, h3⟩ := open_any (k := 3) (Q := fun cs => ∃ a b c : Int, cs = [.int .i64 a, .int .i64 b, .int .i64 c] ∧ I64 a ∧ I64 b ∧ I64 c) Tryz.underlying25 (by kernel_rfl) (by decide) trip_cells hv h
  unfold maxLen at h2
  refine ⟨sl, n, c, rfl, by omega, fun j hj => ?_⟩
  obtain ⟨b, o, e, cs, ⟨x, y, z, rfl, hx, hy, hz⟩, hc⟩ := h3 j hj
  exact ⟨x, y, z, hx, hy, hz, b, o, e, by simpa using hc 0 _ rfl, by simpa using hc 1 _ rfl, by simpa using hc 2 _ rfl⟩

theorem laidOut : laidOutB Tryz.prog = true := by kernel_rfl

theorem all_read {H : Type} {enc : TypeId × Value → H} {W W' : World} (hb : Below W.heap.size W W') : ∀ {ts : List TypeId} {vs : List Value} {ds : List (DataW H)} {ps : List MemPlace},
    (∀ t ∈ ts, Tryz.prog.readableRec t = true ∧ t < Tryz.prog.types.size) → (∀ x ∈ ps, x.block < W.heap.size) → DataW.TrodAll enc Tryz.prog W 0 (fun _ => true) true ts vs ds ps →
    DataW.TrodAll enc Tryz.prog W' 0 (fun b => decide (b < W.heap.size)) true ts vs ds ps
  | [], [], [], _, _, _, h => h
  | t :: _, _ :: _, _ :: _, _, ht, hl, ⟨p, q, h1, h2, e⟩ =>
    ⟨p, q, Below.trod laidOut (ht t (by simp)).1 (ht t (by simp)).2 h1 hb (fun x hx => hl x (by rw [e]; exact List.mem_append_left _ hx)),
      all_read hb (fun u hu => ht u (by simp [hu])) (fun x hx => hl x (by rw [e]; exact List.mem_append_right _ hx)) h2, e⟩

/-- What a statement asks, behind a call that returned true. -/
theorem told {H : Type} {enc : TypeId × Value → H} {f : Func} {s : ChangeSpec} {W W' : World} {args : Array Value} {ds gs : List (DataW H)} {before : List MemPlace}
    (hW : DataW.Whole enc Tryz.prog f.params.toList s.vars false W args.toList ds gs before) (hv : s.vars = []) (hf : s.fn H ds = { results := [.lit (.bool true)], args := ds }) (hr : f.resultTypes = #[4])
    (hp : (f.params.toList.all fun t => Tryz.prog.readableRec t && decide (t < Tryz.prog.types.size)) = true) (hg : Ext W W') : s.post enc Tryz.prog f false true false false W args (.bool true) W' := by
  have hlt : ∀ p ∈ before, p.block < W.heap.size := fun p hp => hW.lt p hp
  have hW' := hW
  obtain ⟨p, q, hA, hV, e, _, _⟩ := hW
  rw [hv] at hV
  obtain ⟨rfl, rfl⟩ := trodVars_none hV
  rw [List.append_nil] at e
  subst e
  refine ⟨ds, [], before, [], before, [], hW', ?_, ?_, ?_, Below.frame hg _, fun h => by cases h⟩
  · rw [List.append_nil, hf, hr]
    exact trodAll_cons_mk (shut_bool Tryz.underlying4 _) trodAll_mk0
  · rw [List.append_nil, hf]
    refine all_read hg (fun t ht => ?_) hlt hA
    have := List.all_eq_true.1 hp t ht
    simpa using this
  · rw [List.append_nil, hf, hv]
    rfl

theorem own : ownKnob Tryz.prog.godebug = none := by kernel_rfl

end Go.Proofs.YtmonkcekkhfafaaGreatDoor.Law

/- LawRead2:
  An array of three ints as an argument, opened. Condition: it is readable, as a statement's arguments are.
-/
set_option maxRecDepth 100000
namespace Go.Proofs.YtmonkcekkhfafaaGreatDoor.Law
open Go.ChangeShapes Go.WideShapes Go.ChangeAt Go.RowKit Go.Joins Go.Deep
open Go.Proofs.YtmonkcekkhfafaaGreatDoor.Aut (Ext I64 U64 add_is)

theorem open_trip {H : Type} {enc : TypeId × Value → H} {W : World} {base : Nat} {v : Value} {d : DataW H} {p : List MemPlace} (hv : Value.okWide Tryz.prog W .any base 22 v) (h : DataW.Trod enc Tryz.prog W 0 (fun _ => true) true 22 v d p) : ∃ a b c : Int, v = .agg #[.int .i64 a, .int .i64 b, .int .i64 c] ∧ I64 a ∧ I64 b ∧ I64 c := by
  obtain ⟨cs, rfl, hsz, _⟩ : ∃ cs, v = .agg cs ∧ cs.size = Tryz.prog.cellsOf 22 ∧ Row.okWide Tryz.prog W .any base 22 cs := by
    simpa [Value.okWide, Tryz.underlying22] using hv
  rw [show Tryz.prog.cellsOf 22 = 3 by kernel_rfl] at hsz
  obtain ⟨l⟩ := cs
  obtain ⟨c0, c1, c2, rfl⟩ := list3 hsz
  obtain ⟨fuel, hf⟩ := h
  obtain ⟨ys, m, _, _, hlen, hys, hg⟩ := DataW.trod_array Tryz.underlying22 hf
  have k2 : Tryz.prog.cellsOf 3 = 1 := by kernel_rfl
  have i0 := hg 0 (by omega)
  have i1 := hg 1 (by omega)
  have i2 := hg 2 (by omega)
  simp [k2, hys, Value.cells] at i0 i1 i2
  obtain ⟨a, ea, _, wa⟩ := DataW.trod_int Tryz.underlying3 i0
  obtain ⟨b, eb, _, wb⟩ := DataW.trod_int Tryz.underlying3 i1
  obtain ⟨c, ec, _, wc⟩ := DataW.trod_int Tryz.underlying3 i2
  cases ea; cases eb; cases ec
  exact ⟨a, b, c, rfl, i64_of wa, i64_of wb, i64_of wc⟩

end Go.Proofs.YtmonkcekkhfafaaGreatDoor.Law

/- LawOpen:
  Configurations, states, calls and lists of answers as arguments, opened. Condition: they are readable, as a statement's arguments are.
-/
set_option maxRecDepth 100000
namespace Go.Proofs.YtmonkcekkhfafaaGreatDoor.Law
open Go.ChangeShapes Go.WideShapes Go.ChangeAt Go.RowKit Go.Joins Go.Deep
open Go.Proofs.YtmonkcekkhfafaaGreatDoor.Aut (Ext I64 U64 add_is WS WSL NS RS Rs Ir St Sl SS sv)

section
variable {H : Type} {enc : TypeId × Value → H} {W : World} {base : Nat} {v : Value} {d : DataW H} {p : List MemPlace}

/-- A state's slices, of whatever length. -/
def WL (w : World) (sl : Option Addr) (n c : Nat) : Prop := n ≤ c ∧ c ≤ 9223372036854775807 ∧ ∀ i, i < n → ∃ x b o, U64 x ∧ sl = some ⟨b, o, none⟩ ∧ w.cell? ⟨b, o + i, none⟩ = some (.int .u64 x)
def NL (w : World) (sl : Option Addr) (n c : Nat) : Prop := n ≤ c ∧ c ≤ 9223372036854775807 ∧ ∀ i, i < n → ∃ x b o, I64 x ∧ sl = some ⟨b, o, none⟩ ∧ w.cell? ⟨b, o + i, none⟩ = some (.int .i64 x)
def RL (w : World) (sl : Option Addr) (n c : Nat) : Prop := n ≤ c ∧ c ≤ 9223372036854775807 ∧ ∀ i, i < n → ∃ (x : Rs) (b o : Nat), Ir x ∧ sl = some ⟨b, o, none⟩ ∧ w.cell? ⟨b, o + i * 2, none⟩ = some (.int .i64 x.1) ∧ w.cell? ⟨b, o + i * 2 + 1, none⟩ = some (.int .u64 x.2)

end

end Go.Proofs.YtmonkcekkhfafaaGreatDoor.Law

/- EncLaidR:
  What the rows list of the package's table is what the calls ask of the world: twelve cells. The condition: the world meets the list.
-/
namespace Go.Proofs.YtmonkcekkhfafaaGreatDoor.Reg
open Go

theorem gHomes : Tryz.prog.globalNamed "whitewash/region.homes" = some 0 := by kernel_rfl
theorem gHomesType : (Tryz.prog.globals[0]?).map (·.type) = some 105 := by kernel_rfl
theorem cells44 : Tryz.prog.cellsOf 104 = 2 := by kernel_rfl
theorem cells3 : Tryz.prog.cellsOf 3 = 1 := by kernel_rfl

theorem row_cells {W : World} {cs : List Value} {fuel : Nat} {p : List MemPlace} (zs : List Int)
    (h : DataW.trod (fun _ => ()) Tryz.prog W 0 (fun _ => true) false fuel 104 cs = some (.agg (zs.map fun z => .lit (.int .i64 z)), p)) : cs = zs.map fun z => Value.int .i64 z := by
  refine Lib.ints_of_struct Tryz.underlying104 ?_ cells44 h
  intro i f hf
  match i, hf with
  | 0, hf => cases hf; exact ⟨Tryz.underlying3, rfl, cells3⟩
  | 1, hf => cases hf; exact ⟨Tryz.underlying3, rfl, cells3⟩
  | n + 2, hf => simp at hf

theorem tab_of {W : World} {L : List (String × DataW Unit)} (h' : laidMet Tryz.prog L W) (hm : ("whitewash/region.homes", Rows.laid_whitewash_region_homes) ∈ L) : Tab W := by
  obtain ⟨g, t, cs, fuel, p, hg, hty, hvar, hd⟩ := Lib.laidMet.reads h' hm
  obtain rfl := Option.some.inj (gHomes.symm.trans hg)
  obtain rfl := Option.some.inj (gHomesType.symm.trans hty)
  have e : ∀ i, W.cell? ⟨0, i, none⟩ = cs.toList[i]? := fun i => (World.var?_cell hg hvar i).trans (by simp)
  obtain ⟨l⟩ := cs
  have k : ∀ i (zs : List Int), i < 6 → (∀ d : DataW Unit, ([.agg [.lit (.int .i64 0), .lit (.int .i64 0)], .agg [.lit (.int .i64 1), .lit (.int .i64 0)], .agg [.lit (.int .i64 1), .lit (.int .i64 2)], .agg [.lit (.int .i64 1), .lit (.int .i64 4)], .agg [.lit (.int .i64 2), .lit (.int .i64 4)], .agg [.lit (.int .i64 9), .lit (.int .i64 1)]] : List (DataW Unit))[i]? = some d → d = .agg (zs.map fun z => .lit (.int .i64 z))) →
      (l.drop (i * 2)).take 2 = zs.map fun z => Value.int .i64 z := by
    intro i zs hi hz
    obtain ⟨f', d, q, h1, h2⟩ := Lib.array_elem Tryz.underlying105 hd i hi
    obtain rfl := hz d h1
    rw [cells44] at h2
    exact row_cells zs h2
  have k0 := k 0 [0, 0] (by decide) (fun d hd => by simpa using hd.symm)
  have k1 := k 1 [1, 0] (by decide) (fun d hd => by simpa using hd.symm)
  have k2 := k 2 [1, 2] (by decide) (fun d hd => by simpa using hd.symm)
  have k3 := k 3 [1, 4] (by decide) (fun d hd => by simpa using hd.symm)
  have k4 := k 4 [2, 4] (by decide) (fun d hd => by simpa using hd.symm)
  have k5 := k 5 [9, 1] (by decide) (fun d hd => by simpa using hd.symm)
  have at' : ∀ i j (zs : List Value), j < 2 → (l.drop (i * 2)).take 2 = zs → l[i * 2 + j]? = zs[j]? := by
    intro i j zs hj h
    rw [← h, List.getElem?_take, if_pos hj, List.getElem?_drop]
  refine ⟨?_, ?_, ?_, ?_, ?_, ?_, ?_, ?_, ?_, ?_, ?_, ?_⟩
  · rw [e]; exact at' 0 0 _ (by decide) k0
  · rw [e]; exact at' 0 1 _ (by decide) k0
  · rw [e]; exact at' 1 0 _ (by decide) k1
  · rw [e]; exact at' 1 1 _ (by decide) k1
  · rw [e]; exact at' 2 0 _ (by decide) k2
  · rw [e]; exact at' 2 1 _ (by decide) k2
  · rw [e]; exact at' 3 0 _ (by decide) k3
  · rw [e]; exact at' 3 1 _ (by decide) k3
  · rw [e]; exact at' 4 0 _ (by decide) k4
  · rw [e]; exact at' 4 1 _ (by decide) k4
  · rw [e]; exact at' 5 0 _ (by decide) k5
  · rw [e]; exact at' 5 1 _ (by decide) k5

end Go.Proofs.YtmonkcekkhfafaaGreatDoor.Reg

/- EncLaidM:
  What the rows list of the package's table is what the calls ask of the world: nine cells. The condition: the world meets the list.
-/
namespace Go.Proofs.YtmonkcekkhfafaaGreatDoor
open Go

theorem gRounds : Tryz.prog.globalNamed "whitewash/mix.rounds" = some 1 := by kernel_rfl
theorem gRoundsType : (Tryz.prog.globals[1]?).map (·.type) = some 170 := by kernel_rfl
theorem cells32 : Tryz.prog.cellsOf 169 = 3 := by kernel_rfl
theorem cells30 : Tryz.prog.cellsOf 136 = 1 := by kernel_rfl
theorem cells22 : Tryz.prog.cellsOf 26 = 1 := by kernel_rfl

theorem row_cells {W : World} {cs : List Value} {fuel : Nat} {p : List MemPlace} (zs : List Int)
    (h : DataW.trod (fun _ => ()) Tryz.prog W 0 (fun _ => true) false fuel 169 cs = some (.agg (zs.map fun z => .lit (.int .u64 z)), p)) : cs = zs.map fun z => Value.int .u64 z := by
  refine Lib.ints_of_struct Tryz.underlying169 ?_ cells32 h
  intro i f hf
  match i, hf with
  | 0, hf => cases hf; exact ⟨Tryz.underlying136, rfl, cells30⟩
  | 1, hf => cases hf; exact ⟨Tryz.underlying26, rfl, cells22⟩
  | 2, hf => cases hf; exact ⟨Tryz.underlying26, rfl, cells22⟩
  | n + 3, hf => simp at hf

theorem tab_of {W : World} {L : List (String × DataW Unit)} (h' : laidMet Tryz.prog L W) (hm : ("whitewash/mix.rounds", Rows.laid_whitewash_mix_rounds) ∈ L) : Tab W := by
  obtain ⟨g, t, cs, fuel, p, hg, hty, hvar, hd⟩ := Lib.laidMet.reads h' hm
  obtain rfl := Option.some.inj (gRounds.symm.trans hg)
  obtain rfl := Option.some.inj (gRoundsType.symm.trans hty)
  have e : ∀ i, W.cell? ⟨1, i, none⟩ = cs.toList[i]? := fun i => (World.var?_cell hg hvar i).trans (by simp)
  obtain ⟨l⟩ := cs
  have k : ∀ i (zs : List Int), i < 3 → (∀ d : DataW Unit, ([.agg [.lit (.int .u64 30), .lit (.int .u64 13787848793156543929), .lit (.int .u64 10871156337175269513)], .agg [.lit (.int .u64 27), .lit (.int .u64 10723151780598845931), .lit (.int .u64 3573116690164977347)], .agg [.lit (.int .u64 31), .lit (.int .u64 1), .lit (.int .u64 1)]] : List (DataW Unit))[i]? = some d → d = .agg (zs.map fun z => .lit (.int .u64 z))) →
      (l.drop (i * 3)).take 3 = zs.map fun z => Value.int .u64 z := by
    intro i zs hi hz
    obtain ⟨f', d, q, h1, h2⟩ := Lib.array_elem Tryz.underlying170 hd i hi
    obtain rfl := hz d h1
    rw [cells32] at h2
    exact row_cells zs h2
  have k0 := k 0 [30, 13787848793156543929, 10871156337175269513] (by decide) (fun d hd => by simpa using hd.symm)
  have k1 := k 1 [27, 10723151780598845931, 3573116690164977347] (by decide) (fun d hd => by simpa using hd.symm)
  have k2 := k 2 [31, 1, 1] (by decide) (fun d hd => by simpa using hd.symm)
  have at' : ∀ i j (zs : List Value), j < 3 → (l.drop (i * 3)).take 3 = zs → l[i * 3 + j]? = zs[j]? := by
    intro i j zs hj h
    rw [← h, List.getElem?_take, if_pos hj, List.getElem?_drop]
  refine ⟨?_, ?_, ?_, ?_, ?_, ?_, ?_, ?_, ?_⟩
  · rw [e]; exact at' 0 0 _ (by decide) k0
  · rw [e]; exact at' 0 1 _ (by decide) k0
  · rw [e]; exact at' 0 2 _ (by decide) k0
  · rw [e]; exact at' 1 0 _ (by decide) k1
  · rw [e]; exact at' 1 1 _ (by decide) k1
  · rw [e]; exact at' 1 2 _ (by decide) k1
  · rw [e]; exact at' 2 0 _ (by decide) k2
  · rw [e]; exact at' 2 1 _ (by decide) k2
  · rw [e]; exact at' 2 2 _ (by decide) k2

end Go.Proofs.YtmonkcekkhfafaaGreatDoor

/- EncHome:
  What the document's Home and the law's pick return; append of a list onto nothing. Conditions: the package's table lies; integers' bounds; the list is there.
-/
namespace Go.Proofs.YtmonkcekkhfafaaGreatDoor.Enc
open Go.RowKit (Below intOf)
open Go.Proofs.YtmonkcekkhfafaaGreatDoor.Aut
open Go.Proofs.YtmonkcekkhfafaaGreatDoor.Law (pickZ pick_ge pick_lt)
open Go.Proofs.YtmonkcekkhfafaaGreatDoor.Reg (cf bx fits_any)

theorem rhome_any (k p m : Int) (w : World) (hT : Reg.Tab w) : Calls Tryz.prog 19 #[cf k p m] w fun e w' => e = .returned (.int .i64 (Reg.home k p m)) ∧ Ext w w' :=
  (Reg.rhome_kept k p m w w (Reg.Kept.start hT)).mono fun _ _ h => ⟨h.1, h.2.below⟩

theorem epick_any (c n : Int) (w : World) (hc : I64 c) (h0 : 0 < n) :
    Calls Tryz.prog 13 #[.int .i64 c, .int .i64 n] w fun e w' => e = .returned (.int .i64 (pickZ c n)) ∧ w = w' := by
  have hn0 : n ≠ 0 := by omega
  unfold pickZ
  by_cases hneg : c < 0
  · rw [if_pos hneg]
    have e1 : RowKit.Hid (RowKit.wrap64 (-(RowKit.wrap64 (c + 1))) = -(c + 1)) := Lib.hid (by unfold I64 at hc; simp only [RowKit.wrap64]; omega)
    have hd : 0 ≤ -(c + 1) := by omega
    have hb : decide (c < 0) = true := decide_eq_true hneg
    have e3 : RowKit.Hid ((-(c + 1)).tmod n = (-(c + 1)) % n) := Lib.hid (Int.tmod_eq_emod_of_nonneg hd)
    clear hneg hd h0
    go_enter Tryz.func13, Tryz.ntmps13
    go_wp2
    go_ret
    refine ⟨?_, rfl⟩
    show Ending.returned (.int .i64 ((RowKit.wrap64 (-RowKit.wrap64 (c + 1))).tmod n)) = _
    rw [e1.out, e3.out]
  · rw [if_neg hneg]
    have hb : decide (c < 0) = false := decide_eq_false hneg
    have hd : 0 ≤ c := by omega
    clear hneg
    go_enter Tryz.func13, Tryz.ntmps13
    go_wp2
    go_ret
    exact ⟨rfl, rfl⟩
/-- append of a list onto nothing. -/
theorem app_nil {W : World} {sl : Option Addr} {n c : Nat} {xs : List Int} (h : WS W sl n c xs) (h0 : 0 < n) (hn : n ≤ 4096) :
    ∃ g c' w', RowKit.Hid ((Builtin.append_ #[27, 27] 27 #[.slice none 0 0, .slice sl n c]).run Tryz.prog W = .ok (.slice (some ⟨g, 0, none⟩) n c') w') ∧ w'.ownsRow W.heap.size 26 1 (.slice (some ⟨g, 0, none⟩) n c') n (flatWS xs) ∧ Ext W w' ∧ W.heap.size ≤ g := by
  obtain ⟨sl', c', w', hr, ho, hg⟩ := appWS (World.ownsRow_nil W W.heap.size 26 1) (ys := []) h n (by omega) (by omega) (Nat.le_refl _)
  rw [List.nil_append] at ho
  have hx : Ext W w' := (Ext.refl W).grown hg fun k hk => by cases hk
  rcases ho.2 with ⟨e, _⟩ | ⟨g, cap, cur, e, hge, _⟩
  · cases e; omega
  · cases e
    exact ⟨g, c', w', hr, ho, hx, hge⟩

end Go.Proofs.YtmonkcekkhfafaaGreatDoor.Enc

