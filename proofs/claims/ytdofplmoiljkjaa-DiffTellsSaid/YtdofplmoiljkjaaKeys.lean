/-
  What slices.Sorted of maps.Keys returns of a map by ints: its keys, rising; and the map of writes, as a list's last ones. Condition: the map is there.
-/
import Derived.Test.YtdofplmoiljkjaaShelf
import Derived.Test.YtdofplmoiljkjaaConcat
import Derived.Maps.Own
import Derived.Maps.OwnOps
import Derived.WalkArith
namespace Go.Proofs.Ytdofplmoiljkjaa
open Go.RowKit Go.Maps Go.Sort Go.Shelf

theorem i64_wf {x : Int} (h : I64 x) : (Lit.int .i64 x).wf = true := WalkArith.wf_i64 (by unfold I64 at h; omega)
theorem u64_wf {x : Int} (h : U64 x) : (Lit.int .u64 x).wf = true := WalkArith.wf_u64 (by unfold U64 at h; omega)

theorem sorts_in (m : Nat) : AnyZI.SortsIn Try.prog Try.sortedA_ren Fence.wide m :=
  ⟨fun blk off cap ss W hH hblk hsz => callsIn_wide.2 (AnyM.slices_Sort_int Try.sortA blk off cap ss W hH hblk hsz),
   fun p cap W => callsIn_wide.2 (AnyM.slices_Sort_int_none Try.sortA p cap W)⟩

theorem keys_any (mb : Option Nat) (w : World) : Calls Try.prog 26 #[.map mb] w fun e w' => e = .returned (.func (.func 31) #[] #[.pointer (some ⟨w.heap.size, 0, none⟩)]) ∧ w' = w.alloc (.cells #[.map mb] 55) :=
  (callsIn_wide (n := 5)).1 (AnyZI.keys_in Try.keysA Fence.wide 5 trivial rfl mb w)

theorem sorted_any {H : Type} (b nn Bm : Nat) (D0 : DataW H) (R : Value → Option (DataW H × List MemPlace)) (w : World) (hown : w.ownsMap Try.prog 3 R b nn D0) (hlt : Bm < w.heap.size) (hc : w.cell? ⟨Bm, 0, none⟩ = some (.map (some b))) (hmax : Maps.size D0 ≤ maxLen) (hbytes : Maps.size D0 * 8 ≤ 140737488355328) :
    Calls Try.prog 25 #[.func (.func 31) #[] #[.pointer (some ⟨Bm, 0, none⟩)]] w fun e w' => ∃ (v : Value) (ss : List Int), e = .returned v ∧ ss.Perm (intKeys D0) ∧
      w'.ownsRow w.heap.size 3 1 v ss.length ((ss.mergeSort (fun x y => decide (x ≤ y))).map encZ) ∧ Below w.heap.size w w' := by
  have hseq : SeqGives Fence.wide 2 Try.prog 31 #[.pointer (some ⟨Bm, 0, none⟩)] encZ (fun ss => ss.Perm (intKeys D0)) (Maps.size D0) w :=
    AnyZI.keys_gives (ρ := Try.keysA_ren) { Try.keysA with } Fence.wide _ trivial rfl (by omega) Bm b nn D0 _ hlt hc hown
  have cS := AnyZI.sorted_in Try.sortedA Fence.wide 5 trivial trivial trivial trivial rfl (by omega) (sorts_in _) (enters_of Try.func30 (by kernel_rfl) rfl) 31 #[.pointer (some ⟨Bm, 0, none⟩)] trivial (enters_of Try.func31 (by kernel_rfl) rfl) _ _ hmax hbytes _ hseq
  refine ((callsIn_wide (n := 5)).1 cS).mono ?_
  rintro e w' ⟨v, ss, he, hS, hrow, hnil, hb⟩
  exact ⟨v, ss, he, hS, hrow, hb⟩

/-- The map of writes. -/
def mapD {H : Type} (all : List Wr) : DataW H := all.foldl (fun D y => D.put (.int .i64 y.1) (.lit (.int .u64 y.2))) (.map [])
theorem mapD_snoc {H : Type} (l : List Wr) (y : Wr) : mapD (H := H) (l ++ [y]) = (mapD l).put (.int .i64 y.1) (.lit (.int .u64 y.2)) := by simp [mapD]
theorem mapD_is {H : Type} (l : List Wr) : IsMap (mapD (H := H) l) := by
  unfold mapD
  have : ∀ (l : List Wr) (D : DataW H), IsMap D → IsMap (l.foldl (fun D y => D.put (.int .i64 y.1) (.lit (.int .u64 y.2))) D) := fun l => by
    induction l with
    | nil => intro D h; exact h
    | cons y r ih => intro D h; exact ih _ (h.put _ _)
  exact this l _ isMap_empty
theorem key_lit (x : Int) : WideAt.IsKeyLit (.int .i64 x) := by simp [WideAt.IsKeyLit]

theorem mapD_at {H : Type} (p : Int) (z : DataW H) : ∀ (n : Nat) (l : List Wr), l.length = n → (mapD l).atKey (.int .i64 p) z = (match lastW l p with | some x => .lit (.int .u64 x) | none => z) ∧ has (mapD (H := H) l) (.int .i64 p) = (lastW l p).isSome
  | 0, l, h => by
    have : l = [] := List.eq_nil_of_length_eq_zero h
    subst this; exact ⟨rfl, rfl⟩
  | n + 1, l, h => by
    obtain ⟨r, y, rfl⟩ : ∃ r y, l = r ++ [y] := ⟨l.dropLast, l.getLast (by intro e; rw [e] at h; cases h), (List.dropLast_concat_getLast _).symm⟩
    have ih := mapD_at p z n r (by simpa using h)
    rw [mapD_snoc, lastW_snoc]
    by_cases e : y.1 = p
    · subst e
      rw [if_pos rfl, atKey_put_same (mapD_is r) (key_lit _), has_put_same (mapD_is r) (key_lit _)]
      exact ⟨rfl, rfl⟩
    · have hne : Lit.int .i64 p ≠ Lit.int .i64 y.1 := fun he => e (by injection he with _ he; exact he.symm)
      rw [if_neg e, atKey_put_other hne, has_put_other hne]
      exact ih

theorem keys_list : ∀ all : List Wr, ∃ ss : List Int, ss.Nodup ∧ (∀ p, p ∈ ss ↔ (lastW all p).isSome = true) ∧ ss.length ≤ all.length
  | [] => ⟨[], List.nodup_nil, fun p => by simp [lastW], Nat.le_refl _⟩
  | y :: r => by
    obtain ⟨ss, h1, h2, h3⟩ := keys_list r
    have hm : ∀ p, (lastW (y :: r) p).isSome = true ↔ y.1 = p ∨ (lastW r p).isSome = true := fun p => by
      rw [lastW]
      cases lastW r p with
      | some x => simp
      | none => by_cases e : y.1 = p <;> simp [e]
    by_cases hy : y.1 ∈ ss
    · refine ⟨ss, h1, fun p => ?_, by simp; omega⟩
      rw [hm p, h2 p]
      constructor
      · exact .inr
      · rintro (rfl | h)
        · exact (h2 _).1 hy
        · exact h
    · refine ⟨y.1 :: ss, List.nodup_cons.2 ⟨hy, h1⟩, fun p => ?_, by simp; omega⟩
      rw [hm p, List.mem_cons, h2 p]
      constructor
      · rintro (rfl | h)
        · exact .inl rfl
        · exact .inr h
      · rintro (rfl | h)
        · exact .inl rfl
        · exact .inr h

theorem size_keys {H : Type} (D : DataW H) : Maps.size D = (intKeys D).length := by
  cases D <;> simp [Maps.size, intKeys]

/-- The keys of the map of writes: each place that is written, once. -/
theorem mapD_keys {H : Type} {w : World} {b n : Nat} {R : Value → Option (DataW H × List MemPlace)} {all : List Wr} (hown : w.ownsMap Try.prog 3 R b n (mapD all)) {ss : List Int} (hp : ss.Perm (intKeys (mapD (H := H) all))) :
    ss.Nodup ∧ (∀ p, p ∈ ss ↔ (lastW all p).isSome = true) ∧ ss.length ≤ all.length := by
  obtain ⟨s0, h1, h2, h3⟩ := keys_list all
  have hc : CollectedI (mapD (H := H) all) (fun _ => false) s0 := ⟨h1, fun x => by rw [h2 x, (mapD_at (H := H) x .nil _ all rfl).2]; simp⟩
  have hp0 := hc.perm hown (Maps.int_keyed Try.underlying3) Try.underlying3 (fun _ => rfl)
  have hq := hp.trans hp0.symm
  exact ⟨hq.symm.nodup h1, fun p => (hq.mem_iff).trans (h2 p), by rw [hq.length_eq]; exact h3⟩
theorem mapD_size {H : Type} {w : World} {b n : Nat} {R : Value → Option (DataW H × List MemPlace)} {all : List Wr} (hown : w.ownsMap Try.prog 3 R b n (mapD all)) : Maps.size (mapD (H := H) all) ≤ all.length := by
  rw [size_keys]; exact (mapD_keys hown (List.Perm.refl _)).2.2

/-- Keys in order, each with its last write: that is Then. -/
def tell (all : List Wr) (ks : List Int) : List Wr := ks.map fun p => (p, (lastW all p).getD 0)
theorem tell_is {all : List Wr} {ss : List Int} (h1 : ss.Nodup) (h2 : ∀ p, p ∈ ss ↔ (lastW all p).isSome = true) : IsThen all (tell all (ss.mergeSort (fun x y => decide (x ≤ y)))) := by
  have hperm := List.mergeSort_perm ss (fun x y => decide (x ≤ y))
  have hnd : (ss.mergeSort (fun x y => decide (x ≤ y))).Nodup := hperm.symm.nodup h1
  have hle : (ss.mergeSort (fun x y => decide (x ≤ y))).Pairwise (fun a b => decide (a ≤ b) = true) :=
    List.pairwise_mergeSort (fun a b c h1 h2 => by simp at *; omega) (fun a b => by simp; omega) ss
  refine ⟨?_, fun p x => ?_⟩
  · unfold tell
    rw [List.pairwise_map]
    refine (hle.and hnd).imp fun {a b} h => ?_
    have h1 := h.1
    have h2 := h.2
    simp at h1
    show a < b
    omega
  · unfold tell
    rw [List.mem_map]
    constructor
    · rintro ⟨q, hq, e⟩
      cases e
      obtain ⟨y, hy⟩ := Option.isSome_iff_exists.1 ((h2 _).1 (hperm.mem_iff.1 hq))
      rw [hy]; rfl
    · intro h
      exact ⟨p, hperm.mem_iff.2 ((h2 p).2 (by rw [h]; rfl)), by rw [h]; rfl⟩

end Go.Proofs.Ytdofplmoiljkjaa
