/-
  CellsOne of layer 3 returns true for every input, and its argument reads as before. No condition.
-/
import Derived.Test.YthegokjhgdneoaaSwitch
import Derived.Deep.CutRange
import Derived.Deep.CutBlock
import Derived.Deep.QuietTactic
import Derived.BigQuiet
namespace Go.Proofs.Ythegokjhgdneoaa.cellsOne
open Go.ChangeShapes Go.WideShapes Go.ChangeAt Go.RowKit Go.Joins Go.Deep

/-- The table's cells at first. -/
def lk0 : Array Value := Array.replicate 96 (.bool false)

theorem zero43 (w : World) : (zeroValue 43).run Try.prog w = .ok (.agg lk0) w := by kernel_rfl
theorem build42 (w : World) : (Instr.build 42 #[]).run Try.prog w = .ok (.agg fls) w := by kernel_rfl
theorem store42 (w : World) (b o : Nat) (h : w.there b o 16) : (Instr.storeAt 42 (.pointer (some ⟨b, o, none⟩)) (.agg fls)).run Try.prog w = .ok () (w.setCells b o fls.toList) :=
  run_storeAt_mid w b o 42 fls h (by kernel_rfl) (by kernel_rfl)

theorem wd0 (w : World) : Wd (w.alloc (.cells #[.int .u64 0, .int .u64 0, .int .u64 0, .int .u64 0, .int .u64 0, .int .u64 0] 41)) w.heap.size (fun _ => 0) := fun k hk => by
  have : k = 0 ∨ k = 1 ∨ k = 2 ∨ k = 3 ∨ k = 4 ∨ k = 5 := by omega
  rcases this with rfl | rfl | rfl | rfl | rfl | rfl <;> exact ⟨by simp [go_sem], by simp [go_sem]⟩

theorem ln0 (w : World) : Ln (w.alloc (.cells lk0 43)) w.heap.size (fun _ _ => false) := fun k j hk hj => by
  have hb : (w.alloc (.cells lk0 43)).heap[w.heap.size]? = some (.cells lk0 43 (0, 0)) := heap_alloc_new w _
  have e : lk0[k * 16 + j]? = some (.bool false) := by
    unfold lk0
    rw [Array.getElem?_replicate, if_pos (by omega)]
  refine ⟨?_, ?_⟩
  · simp only [World.cell?, hb]
    simpa using e
  · simp only [World.frozen?, hb]
    simp

theorem rel0 : Rel [(0, 0), (0, 0), (0, 0), (0, 0), (0, 0), (0, 0)] (fun _ => 0) (fun _ _ => false) := ⟨rfl, fun k hk => by
  have : k = 0 ∨ k = 1 ∨ k = 2 ∨ k = 3 ∨ k = 4 ∨ k = 5 := by omega
  rcases this with rfl | rfl | rfl | rfl | rfl | rfl <;> exact ⟨0, rfl, links_none _⟩⟩

set_option maxRecDepth 100000 in
set_option maxHeartbeats 8000000 in
theorem walk (sl : Option Addr) (n c : Nat) (W : World) (hZ : ∀ i, i < n → ∃ b o, sl = some ⟨b, o, none⟩ ∧ ∃ N z, RawAt W b (o + i * 4) N z) :
    Calls Try.prog 4 #[.slice sl n c] W fun e w' => e = .returned (.bool true) ∧ W.grownBy w' none := by
  have HZ := Lib.hid hZ
  clear hZ
  have hz43 := zero43
  go_enter Try.func4, Try.ntmps4
  go_wp2_with (fail)
  refine (awake_any _).mono ?_
  rintro e w1 ⟨rfl, hg⟩
  go_wp2_with (fail)
  refine (new_yes_any 6 _ (by omega) (by omega)).mono ?_
  rintro e w2 ⟨rfl, hr, hg2, hl⟩
  have hO := Own.start (W := W) (n := 6) hr (grown_trans hg hg2) (by have := hg.size; omega) hl (by rfl)
  have hsz := (grown_trans hg hg2).size
  generalize w1.heap.size + 3 = g at hO hr hl ⊢
  clear hr
  change Own _ _ _ _ _ [(0, 0), (0, 0), (0, 0), (0, 0), (0, 0), (0, 0)] at hO
  have hm := hO.mem.m
  have hB : Bare W (((w2.alloc (.cells #[.slice (some ⟨g, 0, none⟩) 6 6] 29)).alloc (.cells #[.int .u64 0, .int .u64 0, .int .u64 0, .int .u64 0, .int .u64 0, .int .u64 0] 41)).alloc (.cells lk0 43)) w2.heap.size g (w2.heap.size + 1) (w2.heap.size + 1 + 1) (.slice (some ⟨g, 0, none⟩) 6 6) [(0, 0), (0, 0), (0, 0), (0, 0), (0, 0), (0, 0)] (fun _ => 0) (fun _ _ => false) := by
    have hw := (wd0 (w2.alloc (.cells #[.slice (some ⟨g, 0, none⟩) 6 6] 29))).far (World.grownBy_alloc _ (.cells lk0 43) none) (by simp)
    have hn := ln0 ((w2.alloc (.cells #[.slice (some ⟨g, 0, none⟩) 6 6] 29)).alloc (.cells #[.int .u64 0, .int .u64 0, .int .u64 0, .int .u64 0, .int .u64 0, .int .u64 0] 41))
    simp only [World.size_alloc] at hw hn
    exact ⟨(hO.alloc _).alloc _, hw, hn, by omega, by omega, by omega, by omega, by omega, by omega, by omega⟩
  have HB := Lib.hid hB
  clear hO hB
  go_wp2_with (fail)
  go_loopw [8] (fun i w => ∃ (k : Nat) (L : List (Int × Int)) (ws : Nat → Int) (ln : Nat → Nat → Bool), k ≤ n ∧ k ≤ 80 ∧ i = .int .i64 k ∧ Rel L ws ln ∧ Bare W w w2.heap.size g (w2.heap.size + 1) (w2.heap.size + 1 + 1) (.slice (some ⟨g, 0, none⟩) 6 6) L ws ln) (fun i _ => (80 - intOf i).toNat)
  case atStart => exact ⟨0, _, _, _, by omega, by omega, rfl, rel0, HB.out⟩
  case round =>
    clear HB hm hz43
    obtain ⟨k, L, ws, ln, k0, k1, rfl, hR, hB⟩ := hrel
    by_cases hlt : k < n ∧ k < 80
    · obtain ⟨h1, h2⟩ := hlt
      obtain ⟨b, o, rfl, N, z, hraw⟩ := HZ.out k h1
      have c0 := hB.own.grown.cell hraw.c0 (by simp)
      have c1 := hB.own.grown.cell hraw.c1 (by simp)
      have c2 := hB.own.grown.cell hraw.c2 (by simp)
      have c3 := hB.own.grown.cell hraw.c3 (by simp)
      have r0 := hraw.r0
      have r1 := hraw.r1
      have r2 := hraw.r2
      unfold I64 at r0 r1 r2
      clear hraw
      have b0 := pick_bd (N 0) 6 (by omega)
      have b1 := pick_bd (N 1) 16 (by omega)
      have b2 := pick_bd (N 2) 6 (by omega)
      obtain ⟨p, hp⟩ : ∃ p : Nat, RowKit.Hid (pick (N 1) 16 = p) := ⟨(pick (N 1) 16).toNat, Lib.hid (by omega)⟩
      obtain ⟨a, ha⟩ : ∃ a : Nat, RowKit.Hid (pick (N 2) 6 = a) := ⟨(pick (N 2) 6).toNat, Lib.hid (by omega)⟩
      rw [hp.out] at b1
      rw [ha.out] at b2
      have h80 : (k : Int) < 80 := by omega
      have hp16 : p < 16 := by omega
      have ha6 : a < 6 := by omega
      obtain ⟨l, hk, hlk⟩ := hR.2 a ha6
      have hop : pick (N 0) 6 = 0 ∨ pick (N 0) 6 = 1 ∨ pick (N 0) 6 = 2 ∨ pick (N 0) 6 = 3 ∨ pick (N 0) 6 = 4 ∨ pick (N 0) 6 = 5 := by omega
      have HK := Lib.hid hk
      clear hk b0
      obtain ⟨OP, hop2, hop⟩ : ∃ OP : Int, (OP = 0 ∨ OP = 1 ∨ OP = 2 ∨ OP = 3 ∨ OP = 4 ∨ OP = 5) ∧ RowKit.Hid (pick (N 0) 6 = OP) := ⟨_, hop, Lib.hid rfl⟩
      go_upto_block 2 with (first
          | (go_at_call 9; with_reducible refine (pick_is (N 1) 16 p _ hp.out (by omega) (by omega) (by omega) (by omega)).mono ?_; rintro e w' ⟨rfl, rfl⟩)
          | (go_at_call 9; with_reducible refine (pick_is (N 2) 6 a _ ha.out (by omega) (by omega) (by omega) (by omega)).mono ?_; rintro e w' ⟨rfl, rfl⟩)
          | (go_at_call 9; with_reducible refine (pick_is (N 0) 6 OP _ hop.out (by omega) (by omega) (by omega) (by omega)).mono ?_; rintro e w' ⟨rfl, rfl⟩))
      clear c0 c1 c2 c3
      refine sw_all hR hB ha6 hp16 HK.out hlk ?_ hop2
      intro d12 d13 d14 d15 d16 d17 d18 d19 d20 d73 d74 d75 d76 d77 d78 d79 d80 d81 d82 d83 d84 d85 d86 d87 d88 d89 d90 d91 d92 d93 d94 d95 d96 d97 d98 d99 d100 d101 d102 d103 d104 d105 d106 d107 d108 d109 d110 d111 d112 d113 d114 d115 d116 d117 d118 d119 d120 d121 d122 d123 d124 d125 d126 d127 d128 d129 d130 d131 d132 d133 d134 d135 d136 d137 d138 d139 d140 d141 d142 d143 d144 d145 d146 d147 d148 d149 d150 d151 d152 d153 d154 d155 d156 d157 d158 d159 d160 d161 d162 d163 w3 hcut
      clear hop2 hop hB
      rcases hcut with ⟨rfl, hB⟩ | ⟨rfl, L2, ws2, ln2, hR2, hB⟩
      · have hw := (hB.wd a ha6).1
        have fw := (hB.wd a ha6).2
        have hR2 := hR.put a ha6 z 0 _ (links_none 16)
        have HF := Lib.hid ((hB.putW ha6 z).clear ha6)
        obtain ⟨q0, y0, q1, y1⟩ := hB.ln.row a ha6
        clear hB
        go_upto_block 3 with (fail)
        clear hw fw q0 y0 q1 y1
        refine ck_all hR2 HF.out ?_
        intro f2 f21 f22 f23 f171 f172 f173 f174 f175 f176 f177 f178 f179 f180 f181 f182 f183 f184 f185 f186 f187 f188 f189 f190 f191 f192 f193 f194 f195 f196 f197 f198 w4 hB
        have HB := Lib.hid hB
        clear hB
        go_wp2
        go_roundw
        case rel => exact ⟨k + 1, _, _, _, by omega, by omega, by go_num, hR2, HB.out⟩
        case measure => simp [intOf]; omega
      · have HF := Lib.hid hB
        clear hB
        go_upto_block 3 with (fail)
        refine ck_all hR2 HF.out ?_
        intro f2 f21 f22 f23 f171 f172 f173 f174 f175 f176 f177 f178 f179 f180 f181 f182 f183 f184 f185 f186 f187 f188 f189 f190 f191 f192 f193 f194 f195 f196 f197 f198 w4 hB
        have HB := Lib.hid hB
        clear hB
        go_wp2
        go_roundw
        case rel => exact ⟨k + 1, _, _, _, by omega, by omega, by go_num, hR2, HB.out⟩
        case measure => simp [intOf]; omega
    · have HG := Lib.hid hB.own.grown
      clear hB
      have hlt' : n ≤ k ∨ (k < n ∧ 80 ≤ k) := by omega
      clear hlt
      rcases hlt' with h1 | ⟨h1, h2⟩
      all_goals
        try (have h80 : (80 : Int) ≤ k := by omega)
        go_wp2
        go_ret
        exact ⟨rfl, HG.out⟩

set_option maxRecDepth 100000 in
theorem lifted (os : Os) (started : os.Started) (H : Type) (enc : TypeId × Value → H) :
    ReturnsInHanded {} Try.checked os 4 .any (Rows.cellsOneSpec.pre6 enc Try.prog Try.f4 Rows.cellsOneRow.domain false) (Rows.cellsOneSpec.post enc Try.prog Try.f4 false true false false) := by
  refine returnsInHanded_of_change (C := Try.checked) own started (by kernel_rfl) Try.func4
    (ChangeSpec.witness6 (enc := enc) (C := Try.checked) false ⟨#[], #[.slice none 0 0], []⟩ 8 (by kernel_rfl) (by kernel_rfl) (by kernel_rfl) (by kernel_rfl)) ?_
  intro W base args ds gs before hval0 hW hcnd _
  have hval : ∀ (j : Nat) t v, Try.f4.params[j]? = some t → args[j]? = some v → Value.okWide Try.prog W .any base t v := hval0
  have hW' := hW
  obtain ⟨p, q, hA0, hV, rfl, hfz, hnd⟩ := hW
  have hA : DataW.TrodAll enc Try.prog W 0 (fun _ => true) true Try.f4.params.toList args.toList ds p := hA0
  rw [Try.params4] at hA hval
  obtain ⟨v0, vs0, d0, ds0, p0, q0, hargs, rfl, rfl, h0, r0⟩ := trodAll_cons hA
  obtain ⟨rfl, rfl, rfl⟩ := trodAll_nil r0
  obtain rfl : args = #[v0] := by cases args; simp_all
  obtain ⟨sl, n, c, rfl, hZ⟩ := open_raws (hval 0 24 v0 rfl rfl) h0
  refine (walk sl n c W hZ).mono fun e W' ⟨he, hg⟩ => ?_
  subst he
  exact ⟨_, rfl, told hW' rfl rfl rfl (by kernel_rfl) hg⟩

theorem over : Rows.cellsOneRow.holds Try.pinned (OpenSpec.ofChange Rows.cellsOneSpec) :=
  OpenClaim.holds_of_wide 4 Try.f4 rfl rfl rfl rfl rfl rfl rfl ⟨rfl, rfl, rfl, rfl, rfl⟩ rfl rfl rfl rfl rfl (by kernel_rfl) Try.func4 (by kernel_rfl)
    (of_decide_eq_true (by kernel_rfl)) (by unfold Func.isWrapper; first | (rw [if_pos (by decide +kernel)]; kernel_rfl) | (rw [if_neg (by decide +kernel)]; exact ⟨rfl, rfl⟩))
    (fun os started H enc _ => lifted os started H enc)

end Go.Proofs.Ythegokjhgdneoaa.cellsOne

namespace Go.Proofs.Ythegokjhgdneoaa
theorem cellsOne_holds : Rows.CellsOneSaid := cellsOne.over
end Go.Proofs.Ythegokjhgdneoaa
