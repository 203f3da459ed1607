/-
  Arguments that are cells, slices of cells, raw things and slices of these, opened to integers. Condition: they are readable, as a statement's arguments are.
-/
import Derived.Test.YthegokjhgdneoaaRead
namespace Go.Proofs.Ythegokjhgdneoaa
open Go.ChangeShapes Go.WideShapes Go.ChangeAt Go.RowKit Go.Joins Go.Deep

def I64 (x : Int) : Prop := -9223372036854775808 ≤ x ∧ x < 9223372036854775808
def U64 (x : Int) : Prop := 0 ≤ x ∧ x < 18446744073709551616

theorem i64_of {x : Int} (h : (Lit.int .i64 x).wf = true) : I64 x := by have := bounds_i64 h; unfold I64; omega
theorem u64_of {x : Int} (h : (Lit.int .u64 x).wf = true) : U64 x := by have := bounds_u64 h; unfold U64; omega

section
variable {H : Type} {enc : TypeId × Value → H} {W : World} {base : Nat} {spare : Nat → Bool} {held : Bool} {fuel : Nat}

theorem list4 {α : Type} {l : List α} (h : l.length = 4) : ∃ a b c d, l = [a, b, c, d] := by
  match l, h with
  | [a, b, c, d], _ => exact ⟨a, b, c, d, rfl⟩
theorem list2 {α : Type} {l : List α} (h : l.length = 2) : ∃ a b, l = [a, b] := by
  match l, h with
  | [a, b], _ => exact ⟨a, b, rfl⟩

/-- A raw thing's cells. -/
theorem raw_cells {cs : List Value} {x : DataW H × List MemPlace} (h : DataW.trod enc Try.prog W base spare held fuel 39 cs = some x) :
    ∃ a b c d : Int, cs = [.int .i64 a, .int .i64 b, .int .i64 c, .int .u64 d] ∧ I64 a ∧ I64 b ∧ I64 c ∧ U64 d := by
  obtain ⟨xs, n, _, _, hlen, hxs, hf⟩ := DataW.trod_struct Try.underlying39 h
  have hl : cs.length = 4 := hlen.trans (by kernel_rfl)
  obtain ⟨c0, c1, c2, c3, rfl⟩ := list4 hl
  obtain ⟨y0, y1, rfl⟩ := list2 (by simpa using hxs)
  have g0 := hf 0 _ rfl
  have g1 := hf 1 _ rfl
  have k0 : Try.prog.cellsOf 37 = 3 := by kernel_rfl
  have k1 : Try.prog.cellsOf 23 = 1 := by kernel_rfl
  have k2 : Try.prog.cellsOf 3 = 1 := by kernel_rfl
  simp [k0, k1] at g0 g1
  obtain ⟨ys, m, _, _, _, hys, hg⟩ := DataW.trod_array Try.underlying37 g0
  have i0 := hg 0 (by omega)
  have i1 := hg 1 (by omega)
  have i2 := hg 2 (by omega)
  simp [k2, hys] at i0 i1 i2
  obtain ⟨a, ea, _, wa⟩ := DataW.trod_int Try.underlying3 i0
  obtain ⟨b, eb, _, wb⟩ := DataW.trod_int Try.underlying3 i1
  obtain ⟨c, ec, _, wc⟩ := DataW.trod_int Try.underlying3 i2
  obtain ⟨d, ed, _, wd⟩ := DataW.trod_int Try.underlying23 g1
  cases ea; cases eb; cases ec; cases ed
  exact ⟨a, b, c, d, rfl, i64_of wa, i64_of wb, i64_of wc, u64_of wd⟩

/-- A cell's cells. -/
theorem cell_cells {cs : List Value} {x : DataW H × List MemPlace} (h : DataW.trod enc Try.prog W base spare held fuel 53 cs = some x) :
    ∃ a b : Int, cs = [.int .u64 a, .int .i64 b] ∧ U64 a ∧ I64 b := by
  obtain ⟨xs, n, _, _, hlen, hxs, hf⟩ := DataW.trod_struct Try.underlying53 h
  have hl : cs.length = 2 := hlen.trans (by kernel_rfl)
  obtain ⟨c0, c1, rfl⟩ := list2 hl
  obtain ⟨y0, y1, rfl⟩ := list2 (by simpa using hxs)
  have g0 := hf 0 _ rfl
  have g1 := hf 1 _ rfl
  have k1 : Try.prog.cellsOf 23 = 1 := by kernel_rfl
  have k2 : Try.prog.cellsOf 3 = 1 := by kernel_rfl
  simp [k1, k2] at g0 g1
  obtain ⟨a, ea, _, wa⟩ := DataW.trod_int Try.underlying23 g0
  obtain ⟨b, eb, _, wb⟩ := DataW.trod_int Try.underlying3 g1
  cases ea; cases eb
  exact ⟨a, b, rfl, u64_of wa, i64_of wb⟩
end

theorem addr_of {W : World} {a : Addr} {i : Nat} {v : Value} (h : W.cell? (a.add i) = some v) (h0 : ∃ u, W.cell? a = some u) : W.cell? ⟨a.block, a.off + i, none⟩ = some v ∧ a = ⟨a.block, a.off, none⟩ := by
  have hs : a.spot = none := by
    obtain ⟨u, hu⟩ := h0
    unfold World.cell? at hu
    split at hu
    · split at hu
      · cases hu
      · rename_i hns
        simpa using hns
    · cases hu
  obtain ⟨b, o, sp⟩ := a
  simp only at hs
  subst hs
  refine ⟨?_, rfl⟩
  unfold Addr.add at h
  split at h
  · rename_i e
    subst e
    simpa using h
  · exact h

/-- A raw thing at place i of a slice. -/
structure RawAt (W : World) (b o : Nat) (N : Nat → Int) (z : Int) : Prop where
  c0 : W.cell? ⟨b, o, none⟩ = some (.int .i64 (N 0))
  c1 : W.cell? ⟨b, o + 1, none⟩ = some (.int .i64 (N 1))
  c2 : W.cell? ⟨b, o + 2, none⟩ = some (.int .i64 (N 2))
  c3 : W.cell? ⟨b, o + 3, none⟩ = some (.int .u64 z)
  r0 : I64 (N 0)
  r1 : I64 (N 1)
  r2 : I64 (N 2)
  r3 : U64 z

/-- A slice of raw things, opened. -/
theorem open_raws {H : Type} {enc : TypeId × Value → H} {W : World} {base : Nat} {v : Value} {d : DataW H} {p : List MemPlace} (hv : Value.okWide Try.prog W .any base 24 v) (h : DataW.Trod enc Try.prog W 0 (fun _ => true) true 24 v d p) :
    ∃ (sl : Option Addr) (n c : Nat), v = .slice sl n c ∧ ∀ i, i < n → ∃ b o, sl = some ⟨b, o, none⟩ ∧ ∃ N z, RawAt W b (o + i * 4) N z := by
  obtain ⟨a, n, c, rfl⟩ := okWide_slice Try.underlying24 hv
  obtain ⟨fuel, hf⟩ := h
  rcases open_slice Try.underlying24 hf with ⟨hcs, _⟩ | ⟨a', len, cap, m, n', D, Pl, hcs, _, hl, _, hm, _, hel⟩
  · simp [Value.cells] at hcs
    exact ⟨a, n, c, rfl, fun i hi => by omega⟩
  · simp [Value.cells] at hcs
    obtain ⟨rfl, rfl, rfl⟩ := hcs
    simp at hm
    have k4 : Try.prog.cellsOf 39 = 4 := by kernel_rfl
    have key : ∀ i, i < n → ∃ x y u z : Int, (W.cell? (a'.add (i * 4)) = some (.int .i64 x) ∧ W.cell? ((a'.add (i * 4)).add 1) = some (.int .i64 y) ∧ W.cell? ((a'.add (i * 4)).add 2) = some (.int .i64 u) ∧ W.cell? ((a'.add (i * 4)).add 3) = some (.int .u64 z)) ∧ I64 x ∧ I64 y ∧ I64 u ∧ U64 z := by
      intro i hi
      obtain ⟨cs', h1, h2⟩ := hel i (by omega)
      rw [k4] at h1
      obtain ⟨x, y, u, z, rfl, hx⟩ := raw_cells h2
      obtain ⟨_, _, hc⟩ := World.cells?_some h1
      exact ⟨x, y, u, z, ⟨by simpa [Addr.add] using hc 0 (by omega), by simpa using hc 1 (by omega), by simpa using hc 2 (by omega), by simpa using hc 3 (by omega)⟩, hx⟩
    refine ⟨some a', n, c, rfl, fun i hi => ?_⟩
    obtain ⟨x, y, u, z, ⟨e0, e1, e2, e3⟩, rx, ry, ru, rz⟩ := key i hi
    obtain ⟨x0, _, _, _, ⟨f0, _⟩, _⟩ := key 0 (by omega)
    have hz : ∃ w, W.cell? a' = some w := ⟨_, by simpa [Addr.add] using f0⟩
    obtain ⟨g0, ga⟩ := addr_of e0 hz
    have hz2 : ∃ w, W.cell? (a'.add (i * 4)) = some w := ⟨_, e0⟩
    obtain ⟨g1, _⟩ := addr_of e1 hz2
    obtain ⟨g2, _⟩ := addr_of e2 hz2
    obtain ⟨g3, _⟩ := addr_of e3 hz2
    have hblk : (a'.add (i * 4)).block = a'.block ∧ (a'.add (i * 4)).off = a'.off + i * 4 := by
      unfold Addr.add
      split
      · rename_i e; simp [e]
      · simp
    rw [hblk.1, hblk.2] at g1 g2 g3
    exact ⟨a'.block, a'.off, congrArg some ga, fun j => if j = 0 then x else if j = 1 then y else u, z, by simpa using g0, by simpa using g1, by simpa using g2, g3, by simpa using rx, by simpa using ry, by simpa using ru, rz⟩

/-- A slice of cells, opened: L: all its words and links. -/
theorem open_cells {H : Type} {enc : TypeId × Value → H} {W : World} {base : Nat} {v : Value} {d : DataW H} {p : List MemPlace} (hv : Value.okWide Try.prog W .any base 22 v) (h : DataW.Trod enc Try.prog W 0 (fun _ => true) true 22 v d p) :
    ∃ (sl : Option Addr) (n c : Nat), v = .slice sl n c ∧ n ≤ c ∧ c ≤ maxLen ∧ (n = 0 ∨ ∃ b o, sl = some ⟨b, o, none⟩) ∧ ∀ i, i < n → ∃ b o, sl = some ⟨b, o, none⟩ ∧ ∃ x l, W.cell? ⟨b, o + i * 2, none⟩ = some (.int .u64 x) ∧ W.cell? ⟨b, o + i * 2 + 1, none⟩ = some (.int .i64 l) ∧ U64 x ∧ I64 l := by
  obtain ⟨a, n, c, rfl⟩ := okWide_slice Try.underlying22 hv
  obtain ⟨fuel, hf⟩ := h
  rcases open_slice Try.underlying22 hf with ⟨hcs, _⟩ | ⟨a', len, cap, m, n', D, Pl, hcs, _, hl, hcap, hm, _, hel⟩
  · simp [Value.cells] at hcs
    exact ⟨a, n, c, rfl, by omega, by rw [hcs.2.2]; exact Nat.zero_le _, .inl (by omega), fun i hi => by omega⟩
  · simp [Value.cells] at hcs
    obtain ⟨rfl, rfl, rfl⟩ := hcs
    simp at hm
    have k4 : Try.prog.cellsOf 53 = 2 := by kernel_rfl
    have key : ∀ i, i < n → ∃ x y : Int, (W.cell? (a'.add (i * 2)) = some (.int .u64 x) ∧ W.cell? ((a'.add (i * 2)).add 1) = some (.int .i64 y)) ∧ U64 x ∧ I64 y := by
      intro i hi
      obtain ⟨cs', h1, h2⟩ := hel i (by omega)
      rw [k4] at h1
      obtain ⟨x, y, rfl, hx⟩ := cell_cells h2
      obtain ⟨_, _, hc⟩ := World.cells?_some h1
      exact ⟨x, y, ⟨by simpa [Addr.add] using hc 0 (by omega), by simpa using hc 1 (by omega)⟩, hx⟩
    have all : ∀ i, i < n → ∃ b o, some a' = some ⟨b, o, none⟩ ∧ ∃ x l, W.cell? ⟨b, o + i * 2, none⟩ = some (.int .u64 x) ∧ W.cell? ⟨b, o + i * 2 + 1, none⟩ = some (.int .i64 l) ∧ U64 x ∧ I64 l := by
      intro i hi
      obtain ⟨x, y, ⟨e0, e1⟩, rx, ry⟩ := key i hi
      obtain ⟨x0, _, ⟨f0, _⟩, _⟩ := key 0 (by omega)
      have hz : ∃ w, W.cell? a' = some w := ⟨_, by simpa [Addr.add] using f0⟩
      obtain ⟨g0, ga⟩ := addr_of e0 hz
      obtain ⟨g1, _⟩ := addr_of e1 ⟨_, e0⟩
      have hblk : (a'.add (i * 2)).block = a'.block ∧ (a'.add (i * 2)).off = a'.off + i * 2 := by
        unfold Addr.add
        split
        · rename_i e; simp [e]
        · simp
      rw [hblk.1, hblk.2] at g1
      exact ⟨a'.block, a'.off, congrArg some ga, x, y, g0, g1, rx, ry⟩
    refine ⟨some a', n, c, rfl, hl, hcap, ?_, all⟩
    by_cases h0 : n = 0
    · exact .inl h0
    · obtain ⟨b, o, e, _⟩ := all 0 (by omega)
      exact .inr ⟨b, o, e⟩

end Go.Proofs.Ythegokjhgdneoaa
