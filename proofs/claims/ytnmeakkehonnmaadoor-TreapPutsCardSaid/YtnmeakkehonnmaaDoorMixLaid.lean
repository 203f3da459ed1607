/-
  What the rows list of the package's table is what the calls ask of the world: nine cells. The condition: the world meets the list.
-/
import Derived.Test.YtnmeakkehonnmaaDoorRows
import Derived.Test.YtnmeakkehonnmaaDoorMixSlot
import Derived.Lib.LaidU8
namespace Go.Proofs.YtnmeakkehonnmaaDoor
open Go

theorem gRounds : Tryd.prog.globalNamed "whitewash/mix.rounds" = some 0 := by kernel_rfl
theorem gRoundsType : (Tryd.prog.globals[0]?).map (·.type) = some 63 := by kernel_rfl
theorem cells32 : Tryd.prog.cellsOf 62 = 3 := by kernel_rfl
theorem cells30 : Tryd.prog.cellsOf 60 = 1 := by kernel_rfl
theorem cells22 : Tryd.prog.cellsOf 25 = 1 := by kernel_rfl

theorem row_cells {W : World} {cs : List Value} {fuel : Nat} {p : List MemPlace} (zs : List Int)
    (h : DataW.trod (fun _ => ()) Tryd.prog W 0 (fun _ => true) false fuel 62 cs = some (.agg (zs.map fun z => .lit (.int .u64 z)), p)) : cs = zs.map fun z => Value.int .u64 z := by
  refine Lib.ints_of_struct Tryd.underlying62 ?_ cells32 h
  intro i f hf
  match i, hf with
  | 0, hf => cases hf; exact ⟨Tryd.underlying60, rfl, cells30⟩
  | 1, hf => cases hf; exact ⟨Tryd.underlying25, rfl, cells22⟩
  | 2, hf => cases hf; exact ⟨Tryd.underlying25, rfl, cells22⟩
  | n + 3, hf => simp at hf

theorem tab_of_laid {W : World} (h : laidMetH Tryd.prog [("whitewash/mix.rounds", Rows.laid_whitewash_mix_rounds)] W) : Tab W := by
  have h' : laidMet Tryd.prog [("whitewash/mix.rounds", Rows.laid_whitewash_mix_rounds)] W := h
  obtain ⟨g, t, cs, fuel, p, hg, hty, hvar, hd⟩ := Lib.laidMet.reads h' (.head _)
  obtain rfl := Option.some.inj (gRounds.symm.trans hg)
  obtain rfl := Option.some.inj (gRoundsType.symm.trans hty)
  have e : ∀ i, W.cell? ⟨0, i, none⟩ = cs.toList[i]? := fun i => (World.var?_cell hg hvar i).trans (by simp)
  obtain ⟨l⟩ := cs
  have k : ∀ i (zs : List Int), i < 3 → (∀ d : DataW Unit, ([.agg [.lit (.int .u64 30), .lit (.int .u64 13787848793156543929), .lit (.int .u64 10871156337175269513)], .agg [.lit (.int .u64 27), .lit (.int .u64 10723151780598845931), .lit (.int .u64 3573116690164977347)], .agg [.lit (.int .u64 31), .lit (.int .u64 1), .lit (.int .u64 1)]] : List (DataW Unit))[i]? = some d → d = .agg (zs.map fun z => .lit (.int .u64 z))) →
      (l.drop (i * 3)).take 3 = zs.map fun z => Value.int .u64 z := by
    intro i zs hi hz
    obtain ⟨f', d, q, h1, h2⟩ := Lib.array_elem Tryd.underlying63 hd i hi
    obtain rfl := hz d h1
    rw [cells32] at h2
    exact row_cells zs h2
  have k0 := k 0 [30, 13787848793156543929, 10871156337175269513] (by decide) (fun d hd => by simpa using hd.symm)
  have k1 := k 1 [27, 10723151780598845931, 3573116690164977347] (by decide) (fun d hd => by simpa using hd.symm)
  have k2 := k 2 [31, 1, 1] (by decide) (fun d hd => by simpa using hd.symm)
  have at' : ∀ i j (zs : List Value), j < 3 → (l.drop (i * 3)).take 3 = zs → l[i * 3 + j]? = zs[j]? := by
    intro i j zs hj h
    rw [← h, List.getElem?_take, if_pos hj, List.getElem?_drop]
  refine ⟨?_, ?_, ?_, ?_, ?_, ?_, ?_, ?_, ?_⟩
  · rw [e]; exact at' 0 0 _ (by decide) k0
  · rw [e]; exact at' 0 1 _ (by decide) k0
  · rw [e]; exact at' 0 2 _ (by decide) k0
  · rw [e]; exact at' 1 0 _ (by decide) k1
  · rw [e]; exact at' 1 1 _ (by decide) k1
  · rw [e]; exact at' 1 2 _ (by decide) k1
  · rw [e]; exact at' 2 0 _ (by decide) k2
  · rw [e]; exact at' 2 1 _ (by decide) k2
  · rw [e]; exact at' 2 2 _ (by decide) k2

end Go.Proofs.YtnmeakkehonnmaaDoor
