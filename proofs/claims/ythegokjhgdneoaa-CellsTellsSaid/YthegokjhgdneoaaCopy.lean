/-
  Memory in a copy of its own (append onto nil), a look whether two are the same, and a raw thing done to a cell. Conditions: the cells that are copied are there; at most sixty of them.
-/
import Derived.Test.YthegokjhgdneoaaOne
import Derived.Deep.QuietTactic
import Derived.BigQuiet
namespace Go.Proofs.Ythegokjhgdneoaa
open Go.RowKit (intOf)

/-- The cells of a list, one after the other. -/
def flat : List (Int × Int) → List Value
  | [] => []
  | x :: r => .int .u64 x.1 :: .int .i64 x.2 :: flat r

theorem flat_len : ∀ L : List (Int × Int), (flat L).length = L.length * 2
  | [] => rfl
  | _ :: r => by simp [flat, flat_len r]; omega
theorem flat_0 : ∀ (L : List (Int × Int)) (k : Nat), (flat L)[k * 2]? = L[k]?.map fun x => .int .u64 x.1
  | [], k => by simp [flat]
  | x :: r, 0 => by simp [flat]
  | x :: r, k + 1 => by
    have e : (k + 1) * 2 = k * 2 + 1 + 1 := by omega
    rw [e]
    simp [flat, flat_0 r k]
theorem flat_1 : ∀ (L : List (Int × Int)) (k : Nat), (flat L)[k * 2 + 1]? = L[k]?.map fun x => .int .i64 x.2
  | [], k => by simp [flat]
  | x :: r, 0 => by simp [flat]
  | x :: r, k + 1 => by
    have e : (k + 1) * 2 + 1 = k * 2 + 1 + 1 + 1 := by omega
    rw [e]
    simp [flat, flat_1 r k]

/-- The cells that are read from ⟨b, o⟩ on. -/
def Src (w : World) (b o : Nat) (L : List (Int × Int)) : Prop := ∀ k x, L[k]? = some x → w.cell? ⟨b, o + k * 2, none⟩ = some (.int .u64 x.1) ∧ w.cell? ⟨b, o + k * 2 + 1, none⟩ = some (.int .i64 x.2)

theorem Src.news {w : World} {b o : Nat} {L : List (Int × Int)} (h : Src w b o L) : ∀ j u, (flat L)[j]? = some u → w.cell? ((⟨b, o, none⟩ : Addr).add j) = some u := fun j u hu => by
  have hadd : (⟨b, o, none⟩ : Addr).add j = ⟨b, o + j, none⟩ := by unfold Addr.add; split <;> simp_all
  rw [hadd]
  obtain ⟨k, hk⟩ : ∃ k, j = k * 2 ∨ j = k * 2 + 1 := ⟨j / 2, by omega⟩
  rcases hk with rfl | rfl
  · rw [flat_0] at hu
    obtain ⟨x, hx, rfl⟩ := Option.map_eq_some_iff.1 hu
    exact (h k x hx).1
  · rw [flat_1] at hu
    obtain ⟨x, hx, rfl⟩ := Option.map_eq_some_iff.1 hu
    rw [← Nat.add_assoc]
    exact (h k x hx).2

theorem flat_one (L : List (Int × Int)) : ∀ u ∈ flat L, u.oneCell' = true := by
  induction L with
  | nil => intro u hu; cases hu
  | cons x r ih =>
    intro u hu
    simp only [flat, List.mem_cons] at hu
    rcases hu with rfl | rfl | hu
    · rfl
    · rfl
    · exact ih u hu

theorem row_of_owns {w : World} {base g n cap : Nat} {L : List (Int × Int)} (h : w.ownsRow base 53 2 (.slice (some ⟨g, 0, none⟩) n cap) n (flat L)) (hn : L.length = n) : Row w g L := by
  rcases h.2 with ⟨e, _⟩ | ⟨g', cap', cur, e, _, hb, _, _, _, ht⟩
  · cases e
  · cases e
    have get : ∀ j, j < n * 2 → cur[j]? = (flat L)[j]? := fun j hj => by
      rw [← ht, List.getElem?_take, if_pos hj]
      simp
    intro k x hk
    have hkl : k < L.length := (List.getElem?_eq_some_iff.1 hk).1
    refine ⟨?_, ?_, ?_, ?_⟩
    · simp only [World.cell?, hb]
      have := get (k * 2) (by omega)
      rw [flat_0, hk] at this
      simpa using this
    · simp only [World.cell?, hb]
      have := get (k * 2 + 1) (by omega)
      rw [flat_1, hk] at this
      simpa using this
    · simp only [World.frozen?, hb]
      simp
    · simp only [World.frozen?, hb]
      simp

/-- append onto nil, of one cell or more. -/
theorem append_cells (w : World) {ops : Array Oper} {rest : List Oper} {op : Oper} {a : Act} {Q : Exit → Act → World → Prop} (hgd : op.guard = none) (s x : Operand)
    (ho : op.op = .call { callee := .builtin .append, args := #[s, x], argTypes := #[22, 22] }) (hs : a.eval s = .slice none 0 0) (b o m c : Nat) (hx : a.eval x = .slice (some ⟨b, o, none⟩) m c) (L : List (Int × Int)) (hL : L.length = m)
    (hsrc : Src w b o L) (hm : 0 < m) (hm2 : m ≤ 1048576)
    (h : ∀ cap w', Row w' w.heap.size L → w.grownBy w' none → w.heap.size < w'.heap.size → wpList Try.prog ops Q rest (a.put op.dst (.slice (some ⟨w.heap.size, 0, none⟩) m cap)) w') : wpList Try.prog ops Q (op :: rest) a w := by
  have hinf : (Try.prog.info? 53).map (fun i => (i.zero, i.size, i.bytes)) = some (some (.agg #[.int .u64 0, .int .i64 0]), 2, 16) := by kernel_rfl
  obtain ⟨i, hi, hx2⟩ := Option.map_eq_some_iff.1 hinf
  simp only [Prod.mk.injEq] at hx2
  obtain ⟨hz, hsz, hb⟩ := hx2
  refine wpList_append_lies w hgd s x 22 ho 0 53 i _ 2 16 Try.underlying22 hi hz hsz hb rfl (by omega) (.slice none 0 0) 0 [] hs (World.ownsRow_nil w 0 53 2) ⟨b, o, none⟩ m c (flat L) hx (by rw [flat_len, hL]) hsrc.news (flat_one L) hm
    (by unfold maxLen; omega) (by omega) (Nat.zero_le _) w.heap.size rfl ?_
  intro g cap w' hown hgrow hat hlt
  have hg : g = w.heap.size := by
    rcases hat with hat | hat
    · cases hat
    · exact hat
  subst hg
  rw [Nat.zero_add] at hown ⊢
  rw [List.nil_append] at hown
  exact h cap w' (row_of_owns hown hL) hgrow hlt

theorem Row.src {w : World} {ab : Nat} {L : List (Int × Int)} (h : Row w ab L) : Src w ab 0 L := fun k x hk => by
  obtain ⟨h1, h2, _, _⟩ := h k x hk
  simpa using ⟨h1, h2⟩

theorem Src.far {w w' : World} {b o : Nat} {L : List (Int × Int)} {row : Option Nat} (h : Src w b o L) (g : w.grownBy w' row) (hne : some b ≠ row) : Src w' b o L := fun k x hk =>
  ⟨g.cell (h k x hk).1 hne, g.cell (h k x hk).2 hne⟩

/-- Own, of memory that has cells. -/
theorem own_some (b o m c : Nat) (L : List (Int × Int)) (w : World) (hL : L.length = m) (hsrc : Src w b o L) (hm : 0 < m) (hm2 : m ≤ 1048576) :
    Calls Try.prog 13 #[.agg #[.slice (some ⟨b, o, none⟩) m c]] w fun e w' => ∃ cap, e = .returned (.agg #[.slice (some ⟨w.heap.size + 2, 0, none⟩) m cap]) ∧ Row w' (w.heap.size + 2) L ∧ w.grownBy w' none ∧ w.heap.size + 2 < w'.heap.size := by
  have hs2 := (hsrc.far (World.grownBy_alloc w (.cells #[.slice (some ⟨b, o, none⟩) m c] 29) none) (by simp)).far (World.grownBy_alloc _ (.cells #[.slice none 0 0] 29) none) (by simp)
  have HS := Lib.hid hs2
  have HL := Lib.hid hL
  clear hs2 hsrc hL
  go_enter Try.func13, Try.ntmps13
  go_wp2_with (at_builtin; refine append_cells _ rfl _ _ rfl (by rfl) b o m c (by rfl) L HL.out HS.out hm hm2 ?_; intro cap w' hr hg hl; have hc := hg.cell (a := ⟨w.heap.size + 1, 0, none⟩) (v := .slice none 0 0) (by simp [go_sem]) (by simp); have hf := (hg.frozen_far ⟨w.heap.size + 1, 0, none⟩ (by simp) (by simp)).trans (show _ = false by simp [go_sem]))
  simp only [World.size_alloc] at hr hl
  refine bodyPost_ret (v := .agg #[.slice (some ⟨w.heap.size + 2, 0, none⟩) m cap]) (by simp [results, Try.results13, go_sem, hc]) rfl ⟨cap, rfl, ?_, ?_, ?_⟩
  · exact hr.far (grown_set _ _ _ _) (by simp)
  · exact grown_new (grown_trans (grown_trans (World.grownBy_alloc _ _ none) (World.grownBy_alloc _ _ none)) hg) (grown_set _ _ _ _) (by omega)
  · simpa using hl

/-- Same, of memory that has the same cells. -/
theorem same_yes (s1 s2 : Option Addr) (n c1 c2 : Nat) (L : List (Int × Int)) (w : World) (hL : L.length = n) (hn : n ≤ 1048576)
    (h1 : ∀ k x, L[k]? = some x → ∃ b, s1 = some ⟨b, 0, none⟩ ∧ w.cell? ⟨b, k * 2, none⟩ = some (.int .u64 x.1) ∧ w.cell? ⟨b, k * 2 + 1, none⟩ = some (.int .i64 x.2))
    (h2 : ∀ k x, L[k]? = some x → ∃ b, s2 = some ⟨b, 0, none⟩ ∧ w.cell? ⟨b, k * 2, none⟩ = some (.int .u64 x.1) ∧ w.cell? ⟨b, k * 2 + 1, none⟩ = some (.int .i64 x.2)) :
    Calls Try.prog 12 #[.agg #[.slice s1 n c1], .agg #[.slice s2 n c2]] w fun e w' => e = .returned (.bool true) ∧ w.grownBy w' none := by
  have H1 := Lib.hid h1
  have H2 := Lib.hid h2
  have HL := Lib.hid hL
  clear h1 h2 hL
  go_enter Try.func12, Try.ntmps12
  go_wp2_with (fail)
  go_loopw [5] (fun i w' => ∃ k m : Nat, k ≤ n ∧ i = .int .i64 k ∧ w' = ((w.alloc (.cells #[.slice s1 n c1] 29)).alloc (.cells #[.slice s2 n c2] 29)).drewN m) (fun i _ => (n - intOf i).toNat)
  case atStart => exact ⟨0, 0, by omega, rfl, rfl⟩
  case round =>
    obtain ⟨k, m, k0, rfl, rfl⟩ := hrel
    by_cases hlt : k < n
    · have hlt' : (k : Int) < n := by omega
      obtain ⟨x, hx⟩ : ∃ x, L[k]? = some x := ⟨L[k]'(by rw [HL.out]; exact hlt), by simp⟩
      obtain ⟨b1, rfl, e1, f1⟩ := H1.out k x hx
      obtain ⟨b2, rfl, e2, f2⟩ := H2.out k x hx
      have e1' := alloc_cell (.cells #[.slice (some ⟨b2, 0, none⟩) n c2] 29) (alloc_cell (.cells #[.slice (some ⟨b1, 0, none⟩) n c1] 29) e1)
      have f1' := alloc_cell (.cells #[.slice (some ⟨b2, 0, none⟩) n c2] 29) (alloc_cell (.cells #[.slice (some ⟨b1, 0, none⟩) n c1] 29) f1)
      have e2' := alloc_cell (.cells #[.slice (some ⟨b2, 0, none⟩) n c2] 29) (alloc_cell (.cells #[.slice (some ⟨b1, 0, none⟩) n c1] 29) e2)
      have f2' := alloc_cell (.cells #[.slice (some ⟨b2, 0, none⟩) n c2] 29) (alloc_cell (.cells #[.slice (some ⟨b1, 0, none⟩) n c1] 29) f2)
      clear e1 e2 f1 f2 hx
      go_wp2_with (fail)
      go_quiet (fail)
      go_wp2
      go_roundw
      case rel => exact ⟨k + 1, m + nq, by omega, by go_num, by simp⟩
      case measure => simp [intOf]; omega
    · go_wp2
      go_ret
      exact ⟨rfl, grown_trans (grown_trans (World.grownBy_alloc _ _ none) (World.grownBy_alloc _ _ none)) (grown_drewN _ _ _)⟩

/-- What a raw thing tells. -/
def tell1 (op : Int) (p : Nat) (c : Int × Int) : Int :=
  if op = 0 then c.1 else if op = 1 then 0 else if op = 2 then c.1 else if op = 3 then (if hasP c.2 p then 1 else 0) else if op = 4 then (if hasP c.2 p then 1 else 0) else 0
/-- What it leaves. -/
def step1 (op : Int) (p : Nat) (z : Int) (c : Int × Int) : Int × Int :=
  if op = 0 then c else if op = 1 then (z, 0) else if op = 2 then (c.1, withP c.2 p) else if op = 3 then c else if op = 4 then (if hasP c.2 p then (z, 0) else c) else (c.1, lessP c.2 p)

theorem set_same {L : List (Int × Int)} {a : Nat} {x : Int × Int} (h : L[a]? = some x) : L.set a x = L := by
  obtain ⟨hl, e⟩ := List.getElem?_eq_some_iff.1 h
  rw [← e]
  exact List.set_getElem_self hl

theorem tup_u64 {a b : Int} (h : a = b) : Ending.returned (.tuple #[.int .u64 a, .int .i64 0]) = .returned (.tuple #[.int .u64 b, .int .i64 0]) := by rw [h]

set_option maxHeartbeats 4000000 in
/-- A raw thing done to a cell. -/
theorem one_any (mb ab : Nat) (s : Value) (L : List (Int × Int)) (N : Nat → Int) (z : Int) (a : Nat) (x l : Int) (w : World) (hM : Mem w mb ab s L) (hk : L[a]? = some (x, l)) (r0 : I64 (N 0)) (r1 : I64 (N 1)) :
    Calls Try.prog 21 #[.pointer (some ⟨mb, 0, none⟩), .agg #[.int .i64 (N 0), .int .i64 (N 1), .int .i64 (N 2), .int .u64 z], .int .i64 a] w fun e w' =>
      e = .returned (.tuple #[.int .u64 (tell1 (pick (N 0) 6) (pick (N 1) 16).toNat (x, l)), .int .i64 0]) ∧ Mem w' mb ab s (L.set a (step1 (pick (N 0) 6) (pick (N 1) 16).toNat z (x, l))) ∧ w.grownBy w' (some ab) := by
  unfold I64 at r0 r1
  have b0 := pick_bd (N 0) 6 (by omega)
  have b1 := pick_bd (N 1) 16 (by omega)
  obtain ⟨p, hp⟩ : ∃ p : Nat, RowKit.Hid (pick (N 1) 16 = p) := ⟨(pick (N 1) 16).toNat, Lib.hid (by omega)⟩
  have hpn : (pick (N 1) 16).toNat = p := by rw [hp.out]; simp
  rw [hpn]
  rw [hp.out] at b1
  clear hpn
  have hp16 : p < 16 := by omega
  obtain ⟨OP, hop⟩ : ∃ OP : Int, RowKit.Hid (pick (N 0) 6 = OP) := ⟨_, Lib.hid rfl⟩
  rw [hop.out] at b0 ⊢
  have hop2 : OP = 0 ∨ OP = 1 ∨ OP = 2 ∨ OP = 3 ∨ OP = 4 ∨ OP = 5 := by omega
  have hM2 := Lib.hid (hM.far (World.grownBy_alloc w (.cells #[.int .i64 (N 0), .int .i64 (N 1), .int .i64 (N 2), .int .u64 z] 39) none) (by simp) (by simp))
  have hG := Lib.hid (World.grownBy_alloc w (.cells #[.int .i64 (N 0), .int .i64 (N 1), .int .i64 (N 2), .int .u64 z] 39) (some ab))
  have HK := Lib.hid hk
  have hk2 : RowKit.Hid (L[(a : Int).toNat]? = some (x, l)) := Lib.hid (by simpa using hk)
  clear hk hM b0
  rcases hop2 with rfl | rfl | rfl | rfl | rfl | rfl
  · go_enter Try.func21, Try.ntmps21
    go_wp2_with (first
      | (go_at_call 9; with_reducible refine (pick_is (N 1) 16 p _ hp.out (by omega) (by omega) (by omega) (by omega)).mono ?_; rintro e w' ⟨rfl, rfl⟩)
      | (go_at_call 9; with_reducible refine (pick_is (N 0) 6 0 _ hop.out (by omega) (by omega) (by omega) (by omega)).mono ?_; rintro e w' ⟨rfl, rfl⟩)
      | (go_at_call 15; (with_reducible refine (load_yes_any _ _ _ _ _ _ _ _ hM2.out hk2.out (by omega)).mono ?_); rintro e w' ⟨rfl, m, g⟩))
    go_ret2
    exact ⟨tup_u64 (by simp [tell1]), by rw [show step1 0 p z (x, l) = (x, l) by simp [step1], set_same HK.out]; exact m, grown_trans hG.out (grown_wide g)⟩
  · go_enter Try.func21, Try.ntmps21
    go_wp2_with (first
      | (go_at_call 9; with_reducible refine (pick_is (N 1) 16 p _ hp.out (by omega) (by omega) (by omega) (by omega)).mono ?_; rintro e w' ⟨rfl, rfl⟩)
      | (go_at_call 9; with_reducible refine (pick_is (N 0) 6 1 _ hop.out (by omega) (by omega) (by omega) (by omega)).mono ?_; rintro e w' ⟨rfl, rfl⟩)
      | (go_at_call 16; (with_reducible refine (store_yes_any _ _ _ _ _ _ _ _ _ hM2.out hk2.out (by omega)).mono ?_); rintro e w' ⟨rfl, m, g⟩))
    go_ret2
    exact ⟨tup_u64 (by simp [tell1]), by simpa [step1] using m, grown_trans hG.out g⟩
  · go_enter Try.func21, Try.ntmps21
    go_wp2_with (first
      | (go_at_call 9; with_reducible refine (pick_is (N 1) 16 p _ hp.out (by omega) (by omega) (by omega) (by omega)).mono ?_; rintro e w' ⟨rfl, rfl⟩)
      | (go_at_call 9; with_reducible refine (pick_is (N 0) 6 2 _ hop.out (by omega) (by omega) (by omega) (by omega)).mono ?_; rintro e w' ⟨rfl, rfl⟩)
      | (go_at_call 17; (with_reducible refine (ll_yes_any _ _ _ _ _ _ _ _ _ hM2.out hk2.out (by omega) (by omega) (by omega)).mono ?_); rintro e w' ⟨rfl, m, g⟩))
    go_ret2
    exact ⟨tup_u64 (by simp [tell1]), by simpa [step1] using m, grown_trans hG.out g⟩
  · cases hq : hasP l p
    · have HQ := Lib.hid hq
      clear hq
      go_enter Try.func21, Try.ntmps21
      go_wp2_with (first
      | (go_at_call 9; with_reducible refine (pick_is (N 1) 16 p _ hp.out (by omega) (by omega) (by omega) (by omega)).mono ?_; rintro e w' ⟨rfl, rfl⟩)
      | (go_at_call 9; with_reducible refine (pick_is (N 0) 6 3 _ hop.out (by omega) (by omega) (by omega) (by omega)).mono ?_; rintro e w' ⟨rfl, rfl⟩)
      | (go_at_call 18; (with_reducible refine (vl_yes_any _ _ _ _ _ _ _ _ _ hM2.out hk2.out (by omega) (by omega) (by omega)).mono ?_); rintro e w' ⟨rfl, m, g⟩; rw [HQ.out]))
      go_ret2
      exact ⟨tup_u64 (by simp [tell1, HQ.out]), by rw [show step1 3 p z (x, l) = (x, l) by simp [step1], set_same HK.out]; exact m, grown_trans hG.out (grown_wide g)⟩
    · have HQ := Lib.hid hq
      clear hq
      go_enter Try.func21, Try.ntmps21
      go_wp2_with (first
      | (go_at_call 9; with_reducible refine (pick_is (N 1) 16 p _ hp.out (by omega) (by omega) (by omega) (by omega)).mono ?_; rintro e w' ⟨rfl, rfl⟩)
      | (go_at_call 9; with_reducible refine (pick_is (N 0) 6 3 _ hop.out (by omega) (by omega) (by omega) (by omega)).mono ?_; rintro e w' ⟨rfl, rfl⟩)
      | (go_at_call 18; (with_reducible refine (vl_yes_any _ _ _ _ _ _ _ _ _ hM2.out hk2.out (by omega) (by omega) (by omega)).mono ?_); rintro e w' ⟨rfl, m, g⟩; rw [HQ.out]))
      go_ret2
      exact ⟨tup_u64 (by simp [tell1, HQ.out]), by rw [show step1 3 p z (x, l) = (x, l) by simp [step1], set_same HK.out]; exact m, grown_trans hG.out (grown_wide g)⟩
  · cases hq : hasP l p
    · have HQ := Lib.hid hq
      clear hq
      go_enter Try.func21, Try.ntmps21
      go_wp2_with (first
      | (go_at_call 9; with_reducible refine (pick_is (N 1) 16 p _ hp.out (by omega) (by omega) (by omega) (by omega)).mono ?_; rintro e w' ⟨rfl, rfl⟩)
      | (go_at_call 9; with_reducible refine (pick_is (N 0) 6 4 _ hop.out (by omega) (by omega) (by omega) (by omega)).mono ?_; rintro e w' ⟨rfl, rfl⟩)
      | (go_at_call 19; (with_reducible refine (sc_not_any _ _ _ _ _ _ _ _ _ _ hM2.out hk2.out (by omega) (by omega) (by omega) HQ.out).mono ?_); rintro e w' ⟨rfl, m, g⟩))
      go_ret2
      exact ⟨tup_u64 (by simp [tell1, HQ.out]), by rw [show step1 4 p z (x, l) = (x, l) by simp [step1, HQ.out], set_same HK.out]; exact m, grown_trans hG.out (grown_wide g)⟩
    · have HQ := Lib.hid hq
      clear hq
      go_enter Try.func21, Try.ntmps21
      go_wp2_with (first
      | (go_at_call 9; with_reducible refine (pick_is (N 1) 16 p _ hp.out (by omega) (by omega) (by omega) (by omega)).mono ?_; rintro e w' ⟨rfl, rfl⟩)
      | (go_at_call 9; with_reducible refine (pick_is (N 0) 6 4 _ hop.out (by omega) (by omega) (by omega) (by omega)).mono ?_; rintro e w' ⟨rfl, rfl⟩)
      | (go_at_call 19; (with_reducible refine (sc_yes_any _ _ _ _ _ _ _ _ _ _ hM2.out hk2.out (by omega) (by omega) (by omega) HQ.out).mono ?_); rintro e w' ⟨rfl, m, g⟩))
      go_ret2
      exact ⟨tup_u64 (by simp [tell1, HQ.out]), by simpa [step1, HQ.out] using m, grown_trans hG.out g⟩
  · go_enter Try.func21, Try.ntmps21
    go_wp2_with (first
      | (go_at_call 9; with_reducible refine (pick_is (N 1) 16 p _ hp.out (by omega) (by omega) (by omega) (by omega)).mono ?_; rintro e w' ⟨rfl, rfl⟩)
      | (go_at_call 9; with_reducible refine (pick_is (N 0) 6 5 _ hop.out (by omega) (by omega) (by omega) (by omega)).mono ?_; rintro e w' ⟨rfl, rfl⟩)
      | (go_at_call 20; (with_reducible refine (rl_yes_any _ _ _ _ _ _ _ _ _ hM2.out hk2.out (by omega) (by omega) (by omega)).mono ?_); rintro e w' ⟨rfl, m, g⟩))
    go_ret2
    exact ⟨tup_u64 (by simp [tell1]), by simpa [step1] using m, grown_trans hG.out g⟩

end Go.Proofs.Ythegokjhgdneoaa
