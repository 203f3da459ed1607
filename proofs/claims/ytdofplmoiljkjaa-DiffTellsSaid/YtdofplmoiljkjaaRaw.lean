/-
  What the statements' own words and writes of raw numbers return: some words, and some writes at places from base on, of n. Conditions: the raw numbers are there; base from 0 to 1000; n at most 2^20.
-/
import Derived.Test.YtdofplmoiljkjaaRef
namespace Go.Proofs.Ytdofplmoiljkjaa
open Go.RowKit (Below intOf)

theorem rowW_zeros (w : World) (n : Nat) : RowW (w.alloc (.cells (zeros n) 46)) w.heap.size (List.replicate n 0) := by
  refine rowW_of_block (World.alloc_heap_new w _) (fun j x hx => ?_)
  rw [List.getElem?_replicate] at hx
  split at hx
  · rename_i hj
    cases hx
    refine ⟨by unfold U64; omega, ?_⟩
    rw [← Array.getElem?_toList, zeros_list, List.getElem?_replicate, if_pos hj]
  · cases hx

set_option maxRecDepth 100000 in
set_option maxHeartbeats 4000000 in
theorem words_any (sl : Option Addr) (m c n : Nat) (w : World) (hI : IS w sl m) (hn : n ≤ 1048576) :
    Calls Try.prog 9 #[.slice sl m c, .int .i64 n] w fun e w' => ∃ g xs, e = .returned (.slice (some ⟨g, 0, none⟩) n n) ∧ WS w' (some ⟨g, 0, none⟩) n n xs ∧ Ext w w' := by
  have hmk := make_words n hn w
  have hz := Lib.hid (rowW_zeros w n)
  have hmm : m ≤ 9223372036854775807 := hI.1
  have HI := Lib.hid hI
  clear hI
  go_enter Try.func9, Try.ntmps9
  go_wp2_with (fail)
  clear hmk
  go_loopw [6] (fun i wr => ∃ (k : Nat) (cur : List Int), k ≤ n ∧ i = .int .i64 k ∧ Below w.heap.size w wr ∧ RowKit.Hid (RowW wr w.heap.size cur ∧ cur.length = n)) (fun i _ => n - (intOf i).toNat)
  case atStart => exact ⟨0, _, by omega, rfl, (Ext.refl w).alloc _, Lib.hid ⟨hz.out, by simp⟩⟩
  case round =>
    obtain ⟨k, cur, hk, rfl, hE, hin⟩ := hrel
    by_cases hlt : k < n
    · by_cases hlm : k < m
      · obtain ⟨x, hx, b, o, rfl, hc⟩ := (HI.out.ext hE).2 k hlm
        obtain ⟨x0, x1⟩ := hx
        obtain ⟨z, hz1, hzf⟩ := hin.out.1.get (i := k) (by rw [hin.out.2]; exact hlt)
        have hpb := pick_bd (c := x) (n := 4) (by omega)
        have hin2 : RowKit.Hid (RowW (wr.setCell ⟨w.heap.size, k, none⟩ (.int .u64 (pick x 4))) w.heap.size (cur.set k (pick x 4))) := Lib.hid (hin.out.1.set (by rw [hin.out.2]; exact hlt) (by unfold U64; omega))
        go_wp2_with (go_at_call 8; with_reducible refine (pick_any _ _ _ (by omega) (by omega) (by omega) (by omega)).mono ?_; rintro e w' ⟨rfl, rfl⟩)
        go_roundw
        case rel => exact ⟨k + 1, cur.set k (pick x 4), by omega, by go_num, Below.setCell (p := ⟨w.heap.size, k, none⟩) hE (Nat.le_refl _) _, Lib.hid ⟨hin2.out, by rw [List.length_set]; exact hin.out.2⟩⟩
        case measure => simp [intOf]; omega
      · go_wp2_with (fail)
        go_ret
        exact ⟨_, cur, rfl, hin.out.1.ws hin.out.2 hn (Nat.le_refl _) (by omega), hE⟩
    · go_wp2_with (fail)
      go_ret
      exact ⟨_, cur, rfl, hin.out.1.ws hin.out.2 hn (Nat.le_refl _) (by omega), hE⟩

theorem own_far {W : World} {base b : Nat} {e : TypeId} {size n : Nat} {v : Value} {xs : List Value} (h : W.ownsRow base e size v n xs) (hb : b < base) : some b ≠ v.ownBlock := fun e => by
  have := own_ge h b e.symm; omega

set_option maxRecDepth 100000 in
set_option maxHeartbeats 4000000 in
theorem writes_any (sl : Option Addr) (m c n : Nat) (base : Int) (w : World) (hP : PS w sl m) (hn : n ≤ 1048576) (g0 : 0 ≤ base) (g1 : base ≤ 1000) :
    Calls Try.prog 10 #[.slice sl m c, .int .i64 base, .int .i64 n] w fun e w' => ∃ so k co ys, e = .returned (.slice so k co) ∧ RS w' so k co ys ∧ k ≤ 20 ∧ (∀ y ∈ ys, base ≤ y.1 ∧ y.1 < base + n) ∧ Ext w w' := by
  have hmm : m ≤ 9223372036854775807 := hP.1
  have HP := Lib.hid hP
  obtain ⟨i0, hi, hz0, hz1, hz2⟩ := info_parts info48
  have Hi := Lib.hid hi
  have Hz0 := Lib.hid hz0
  have Hz1 := Lib.hid hz1
  have Hz2 := Lib.hid hz2
  clear hP hi hz0 hz1 hz2
  go_enter Try.func10, Try.ntmps10
  go_wp2_with (fail)
  go_loopw [7, 8] (fun v i wr => ∃ (k : Nat) (ys : List Wr), k ≤ 20 ∧ i = .int .i64 k ∧ wr.ownsRow w.heap.size 48 2 v k (flat ys) ∧ RowKit.Hid (ys.length = k ∧ (∀ y ∈ ys, (base ≤ y.1 ∧ y.1 < base + n) ∧ U64 y.2)) ∧ Below w.heap.size w wr) (fun _ i _ => 20 - (intOf i).toNat)
  case atStart => exact ⟨0, [], by omega, rfl, World.ownsRow_nil _ _ _ _, Lib.hid ⟨rfl, by simp⟩, Ext.refl w⟩
  case round =>
    obtain ⟨k, ys, hk, rfl, hrow, hin, hE⟩ := hrel
    have fin : RowKit.Hid (∀ v, wr.ownsRow w.heap.size 48 2 v k (flat ys) → ∃ so co, v = .slice so k co ∧ RS wr so k co ys) := Lib.hid (fun v hr => by
      obtain ⟨so, co, rfl⟩ := own_form hr
      refine ⟨so, co, rfl, rs_of_own hr hin.out.1 (by omega) (fun y hy => ?_)⟩
      obtain ⟨h1, h2⟩ := hin.out.2 y hy
      exact ⟨by unfold I64; omega, h2⟩)
    by_cases hlm : k < m
    · by_cases h20 : k < 20
      · by_cases hn0 : 0 < n
        · have h20' : (k : Int) < 20 := by omega
          obtain ⟨x, y, ⟨x0, x1⟩, ⟨y0, y1⟩, b, o, rfl, hc, hd⟩ := (HP.out.ext hE).2 k hlm
          have hbl : b < w.heap.size := by
            obtain ⟨_, _, _, _, b', o', e', hc', _⟩ := HP.out.2 k hlm
            cases e'
            exact World.block_lt_of_cell? w _ hc'
          have px := pick_bd (c := x) (n := n) (by omega)
          have py := pick_bd (c := y) (n := 4) (by omega)
          have hs1 : IntKind.i64.wrap (base + pick x n) = base + pick x n := IntWalk.i64_in _ (by omega)
          have hs2 : IntKind.u64.wrap (pick y 4) = pick y 4 := by rw [IntKind.wrap_u64]; omega
          have hfar : some b ≠ Value.ownBlock _ := own_far hrow hbl
          go_wp2_with (fail)
          go_region_held3 (fun w' => (w'.cell? ⟨b, o + k * 2, none⟩ = some (.int .i64 x) ∧ w'.cell? ⟨b, o + k * 2 + 1, none⟩ = some (.int .i64 y)))
            (first
              | exact ⟨hgrow.cell (Ext.cell (Ext.drew ((Ext.refl wr).alloc _)) hc) hfar, hgrow.cell (Ext.cell (Ext.drew ((Ext.refl wr).alloc _)) hd) hfar⟩
              | go_keep)
            (first
              | (go_at_call 8; with_reducible refine (pick_any _ _ _ (by omega) (by omega) (by omega) (by omega)).mono ?_; rintro e w' ⟨rfl, rfl⟩)
              | (refine step_append_lies _ (by rfl) _ _ _ (by rfl) w.heap.size 48 i0 (.agg #[.int .i64 0, .int .u64 0]) 2 16 Try.underlying23 Hi.out Hz0.out Hz1.out Hz2.out rfl (by omega) _ k (flat ys) (by rfl) ((hrow.alloc _).drew)
                  ⟨wr.heap.size, 0, none⟩ 1 1 [.int .i64 (base + pick x n), .int .u64 (pick y 4)] (by rfl) (by rfl) (World.news_of_block (cs := #[.int .i64 (base + pick x n), .int .u64 (pick y 4)]) (t := 48) (fr := (0, 0)) (heap_alloc_new wr _)) (by simp [Value.oneCell'])
                  (by omega) (by unfold maxLen; omega) (by omega) (by have := hE.size; simp; omega) (wr.heap.size + 1) (by simp) ?_; intro gg cap w1 hown1 hgrow hat hlt))
          have hE1 : Below w.heap.size w w1 := Ext.grown (Ext.drew (Ext.alloc hE _)) hgrow (own_ge hrow)
          have hin2 : RowKit.Hid ((ys ++ [(base + pick x n, pick y 4)]).length = k + 1 ∧ (∀ z ∈ ys ++ [(base + pick x n, pick y 4)], (base ≤ z.1 ∧ z.1 < base + n) ∧ U64 z.2)) := Lib.hid ⟨by simp [hin.out.1], fun z hz => by
            rcases List.mem_append.1 hz with h | h
            · exact hin.out.2 z h
            · simp at h; subst h; exact ⟨⟨by simp; omega, by simp; omega⟩, by unfold U64; simp; omega⟩⟩
          have hown2 : w1.ownsRow w.heap.size 48 2 (.slice (some ⟨gg, 0, none⟩) (k + 1) cap) (k + 1) (flat (ys ++ [(base + pick x n, pick y 4)])) := by rw [flat_append]; exact hown1
          rename_i hh
          clear hh hgrow hat hown1
          go_wp2_with (fail)
          go_roundw
          case rel => exact ⟨k + 1, _, by omega, by go_num, hown2, hin2, hE1⟩
          case measure => simp [intOf]; omega
        · have hn1 : n = 0 := by omega
          subst hn1
          have h20' : (k : Int) < 20 := by omega
          go_wp2_with (fail)
          go_ret
          obtain ⟨so, co, rfl, hr⟩ := fin.out _ hrow
          exact ⟨so, k, co, ys, rfl, hr, hk, fun y hy => (hin.out.2 y hy).1, hE⟩
      · obtain rfl : k = 20 := by omega
        go_wp2_with (fail)
        go_ret
        obtain ⟨so, co, rfl, hr⟩ := fin.out _ hrow
        exact ⟨so, 20, co, ys, rfl, hr, hk, fun y hy => (hin.out.2 y hy).1, hE⟩
    · go_wp2_with (fail)
      go_ret
      obtain ⟨so, co, rfl, hr⟩ := fin.out _ hrow
      exact ⟨so, k, co, ys, rfl, hr, hk, fun y hy => (hin.out.2 y hy).1, hE⟩

end Go.Proofs.Ytdofplmoiljkjaa
