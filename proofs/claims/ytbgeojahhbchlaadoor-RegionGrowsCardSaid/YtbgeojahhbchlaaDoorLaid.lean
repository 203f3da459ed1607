/-
  What the rows list of the package's table is what the calls ask of the world: twelve cells. The condition: the world meets the list.
-/
import Derived.Test.YtbgeojahhbchlaaDoorRows
import Derived.Test.YtbgeojahhbchlaaDoorHome
import Derived.Lib.LaidU8
namespace Go.Proofs.YtbgeojahhbchlaaDoor
open Go

theorem gHomes : Tryd.prog.globalNamed "whitewash/region.homes" = some 0 := by kernel_rfl
theorem gHomesType : (Tryd.prog.globals[0]?).map (·.type) = some 45 := by kernel_rfl
theorem cells44 : Tryd.prog.cellsOf 44 = 2 := by kernel_rfl
theorem cells3 : Tryd.prog.cellsOf 3 = 1 := by kernel_rfl

theorem row_cells {W : World} {cs : List Value} {fuel : Nat} {p : List MemPlace} (zs : List Int)
    (h : DataW.trod (fun _ => ()) Tryd.prog W 0 (fun _ => true) false fuel 44 cs = some (.agg (zs.map fun z => .lit (.int .i64 z)), p)) : cs = zs.map fun z => Value.int .i64 z := by
  refine Lib.ints_of_struct Tryd.underlying44 ?_ cells44 h
  intro i f hf
  match i, hf with
  | 0, hf => cases hf; exact ⟨Tryd.underlying3, rfl, cells3⟩
  | 1, hf => cases hf; exact ⟨Tryd.underlying3, rfl, cells3⟩
  | n + 2, hf => simp at hf

theorem tab_of_laid {W : World} (h : laidMetH Tryd.prog [("whitewash/region.homes", Rows.laid_whitewash_region_homes)] W) : Tab W := by
  have h' : laidMet Tryd.prog [("whitewash/region.homes", Rows.laid_whitewash_region_homes)] W := h
  obtain ⟨g, t, cs, fuel, p, hg, hty, hvar, hd⟩ := Lib.laidMet.reads h' (.head _)
  obtain rfl := Option.some.inj (gHomes.symm.trans hg)
  obtain rfl := Option.some.inj (gHomesType.symm.trans hty)
  have e : ∀ i, W.cell? ⟨0, i, none⟩ = cs.toList[i]? := fun i => (World.var?_cell hg hvar i).trans (by simp)
  obtain ⟨l⟩ := cs
  have k : ∀ i (zs : List Int), i < 6 → (∀ d : DataW Unit, ([.agg [.lit (.int .i64 0), .lit (.int .i64 0)], .agg [.lit (.int .i64 1), .lit (.int .i64 0)], .agg [.lit (.int .i64 1), .lit (.int .i64 2)], .agg [.lit (.int .i64 1), .lit (.int .i64 4)], .agg [.lit (.int .i64 2), .lit (.int .i64 4)], .agg [.lit (.int .i64 9), .lit (.int .i64 1)]] : List (DataW Unit))[i]? = some d → d = .agg (zs.map fun z => .lit (.int .i64 z))) →
      (l.drop (i * 2)).take 2 = zs.map fun z => Value.int .i64 z := by
    intro i zs hi hz
    obtain ⟨f', d, q, h1, h2⟩ := Lib.array_elem Tryd.underlying45 hd i hi
    obtain rfl := hz d h1
    rw [cells44] at h2
    exact row_cells zs h2
  have k0 := k 0 [0, 0] (by decide) (fun d hd => by simpa using hd.symm)
  have k1 := k 1 [1, 0] (by decide) (fun d hd => by simpa using hd.symm)
  have k2 := k 2 [1, 2] (by decide) (fun d hd => by simpa using hd.symm)
  have k3 := k 3 [1, 4] (by decide) (fun d hd => by simpa using hd.symm)
  have k4 := k 4 [2, 4] (by decide) (fun d hd => by simpa using hd.symm)
  have k5 := k 5 [9, 1] (by decide) (fun d hd => by simpa using hd.symm)
  have at' : ∀ i j (zs : List Value), j < 2 → (l.drop (i * 2)).take 2 = zs → l[i * 2 + j]? = zs[j]? := by
    intro i j zs hj h
    rw [← h, List.getElem?_take, if_pos hj, List.getElem?_drop]
  refine ⟨?_, ?_, ?_, ?_, ?_, ?_, ?_, ?_, ?_, ?_, ?_, ?_⟩
  · rw [e]; exact at' 0 0 _ (by decide) k0
  · rw [e]; exact at' 0 1 _ (by decide) k0
  · rw [e]; exact at' 1 0 _ (by decide) k1
  · rw [e]; exact at' 1 1 _ (by decide) k1
  · rw [e]; exact at' 2 0 _ (by decide) k2
  · rw [e]; exact at' 2 1 _ (by decide) k2
  · rw [e]; exact at' 3 0 _ (by decide) k3
  · rw [e]; exact at' 3 1 _ (by decide) k3
  · rw [e]; exact at' 4 0 _ (by decide) k4
  · rw [e]; exact at' 4 1 _ (by decide) k4
  · rw [e]; exact at' 5 0 _ (by decide) k5
  · rw [e]; exact at' 5 1 _ (by decide) k5

end Go.Proofs.YtbgeojahhbchlaaDoor
