/-
  Parts of a proof, one behind the other: LanAsk, LanOn, LanPairs, LanProbe, LanBox, LanReg. Each says its own conditions.
-/
import Derived.Test.YtdipddnnckfnmaaGreatM17
import Derived.Defers
import Derived.Recover

/- LanAsk:
  The read-out's next call: onward, pairs, and ask of each kind of object. Conditions: what was told are answers, at most so many.
-/
namespace Go.Proofs.YtdipddnnckfnmaaGreat.Lan
open Go.RowKit (Below intOf)
open Go.Proofs.YtdipddnnckfnmaaGreat.Aut
open Go.Proofs.YtdipddnnckfnmaaGreat.Reg (cf bx fits_any)

/-- What was told of keys, and of their values. -/
def evR : List Rs → List Rs
  | a :: _ :: r => a :: evR r
  | [a] => [a]
  | [] => []
def odR : List Rs → List Rs
  | _ :: b :: r => b :: odR r
  | [_] => []
  | [] => []
theorem evR_snoc : ∀ (l : List Rs) (y : Rs), evR (l ++ [y]) = if l.length % 2 = 0 then evR l ++ [y] else evR l
  | [], y => rfl
  | [a], y => rfl
  | a :: b :: r, y => by
    have h := evR_snoc r y
    have e : (r.length + 1 + 1) % 2 = r.length % 2 := by omega
    simp only [List.cons_append, evR, List.length_cons, h, e]
    split <;> simp
theorem odR_snoc : ∀ (l : List Rs) (y : Rs), odR (l ++ [y]) = if l.length % 2 = 0 then odR l else odR l ++ [y]
  | [], y => rfl
  | [a], y => rfl
  | a :: b :: r, y => by
    have h := odR_snoc r y
    have e : (r.length + 1 + 1) % 2 = r.length % 2 := by omega
    simp only [List.cons_append, odR, List.length_cons, h, e]
    split <;> simp
theorem evR_len : ∀ l : List Rs, (evR l).length = (l.length + 1) / 2
  | [] => rfl
  | [a] => by simp [evR]
  | a :: b :: r => by simp only [evR, List.length_cons, evR_len r]; omega
theorem odR_len : ∀ l : List Rs, (odR l).length = l.length / 2
  | [] => rfl
  | [a] => by simp [odR]
  | a :: b :: r => by simp only [odR, List.length_cons, odR_len r]; omega
theorem evR_get : ∀ (l : List Rs) (i : Nat), (evR l)[i]? = l[2 * i]?
  | [], i => by simp [evR]
  | [a], 0 => rfl
  | [a], i + 1 => by simp [evR]
  | a :: b :: r, 0 => rfl
  | a :: b :: r, i + 1 => by
    rw [evR, List.getElem?_cons_succ, evR_get r i, show 2 * (i + 1) = 2 * i + 1 + 1 by omega, List.getElem?_cons_succ, List.getElem?_cons_succ]
theorem odR_get : ∀ (l : List Rs) (i : Nat), (odR l)[i]? = l[2 * i + 1]?
  | [], i => by simp [odR]
  | [a], i => by simp [odR]
  | a :: b :: r, 0 => rfl
  | a :: b :: r, i + 1 => by
    rw [odR, List.getElem?_cons_succ, odR_get r i, show 2 * (i + 1) + 1 = 2 * i + 1 + 1 + 1 by omega, List.getElem?_cons_succ, List.getElem?_cons_succ]
theorem evR_mem {l : List Rs} {r : Rs} (h : r ∈ evR l) : r ∈ l := by
  obtain ⟨i, hi⟩ := List.mem_iff_getElem?.1 h
  rw [evR_get] at hi; exact List.mem_of_getElem? hi
theorem odR_mem {l : List Rs} {r : Rs} (h : r ∈ odR l) : r ∈ l := by
  obtain ⟨i, hi⟩ := List.mem_iff_getElem?.1 h
  rw [odR_get] at hi; exact List.mem_of_getElem? hi

def badR (l : List Rs) : Bool := l.any fun r => decide (r.1 ≠ 0)
/-- The call for the key behind those that were told. -/
def onwardS (k : Int) (l : List Rs) : Cl × Bool :=
  if badR l then (zeroC, false) else if l = [] then (⟨8, if k = 4 then 18442240474082181120 else 0, 0⟩, true) else (⟨8, (l.getD (l.length - 1) (0, 0)).2, 1⟩, true)
def askT (k : Int) (l : List Rs) : Cl × Bool := if (onwardS k (evR l)).2 = true ∧ (odR l).length < (evR l).length then (⟨10, (onwardS k (evR l)).1.key, 0⟩, true) else onwardS k (evR l)
theorem over_set {k : Int} (hv : valued k = false) (l : List Rs) : overK k l ↔ badR l = true := by
  unfold overK everyK badR
  rw [hv, List.any_eq_true]
  constructor
  · rintro ⟨i, r, _, h2, h3⟩; exact ⟨r, List.mem_of_getElem? h2, decide_eq_true h3⟩
  · rintro ⟨r, hr, h3⟩
    obtain ⟨i, hi⟩ := List.mem_iff_getElem?.1 hr
    exact ⟨i, r, Nat.mod_one _, hi, of_decide_eq_true h3⟩
theorem over_table {k : Int} (hv : valued k = true) (l : List Rs) : overK k l ↔ badR (evR l) = true := by
  unfold overK everyK badR
  rw [hv, List.any_eq_true]
  constructor
  · rintro ⟨i, r, h1, h2, h3⟩
    obtain ⟨j, rfl⟩ : ∃ j, i = 2 * j := ⟨i / 2, by simp only [if_true] at h1; omega⟩
    exact ⟨r, List.mem_of_getElem? (by rw [evR_get]; exact h2), decide_eq_true h3⟩
  · rintro ⟨r, hr, h3⟩
    obtain ⟨i, hi⟩ := List.mem_iff_getElem?.1 hr
    rw [evR_get] at hi
    exact ⟨2 * i, r, by simp, hi, of_decide_eq_true h3⟩
theorem ask_set {k : Int} (hv : valued k = false) (l : List Rs) : onwardS k l = probedS k l := by
  unfold onwardS probedS
  by_cases h : badR l = true
  · rw [if_pos h, if_pos ((over_set hv l).2 h)]
  · rw [if_neg h, if_neg (fun c => h ((over_set hv l).1 c))]
    have e : everyK k = 1 := by unfold everyK; rw [hv]; rfl
    rw [e, if_neg (show ¬ l.length % 1 = 1 by omega)]
theorem ask_table {k : Int} (hv : valued k = true) (l : List Rs) : askT k l = probedS k l := by
  have e : everyK k = 2 := by unfold everyK; rw [hv]; rfl
  unfold askT probedS
  rw [e]
  have ln := evR_len l
  have lo := odR_len l
  by_cases h : badR (evR l) = true
  · have ho : onwardS k (evR l) = (zeroC, false) := by unfold onwardS; rw [if_pos h]
    rw [ho, if_neg (by simp), if_pos ((over_table hv l).2 h)]
  · rw [if_neg (show ¬ overK k l from fun c => h ((over_table hv l).1 c))]
    by_cases hl : l = []
    · subst hl; simp [evR, odR, onwardS, badR]
    · rw [if_neg hl]
      have hpos : 0 < l.length := List.length_pos_iff.2 hl
      have hne : evR l ≠ [] := fun c => by rw [c] at ln; simp at ln; omega
      have ho : onwardS k (evR l) = (⟨8, ((evR l).getD ((evR l).length - 1) (0, 0)).2, 1⟩, true) := by unfold onwardS; rw [if_neg h, if_neg hne]
      rw [ho, List.getD_eq_getElem?_getD, evR_get]
      by_cases hodd : l.length % 2 = 1
      · rw [if_pos hodd, if_pos ⟨rfl, by omega⟩, show 2 * ((evR l).length - 1) = l.length - 1 by omega, List.getD_eq_getElem?_getD]
      · rw [if_neg hodd, if_neg (fun c => by have := c.2; omega), show 2 * ((evR l).length - 1) = l.length - 2 by omega, List.getD_eq_getElem?_getD]

abbrev opv (c : Cl) : Value := ov c.code c.key c.val
/-- The read-out's next call, as it is told. -/
def AE (c : Cl × Bool) (w : World) (e : Ending) (w' : World) : Prop := e = .returned (.tuple #[opv c.1, .bool c.2]) ∧ Ext w w'

theorem res_new (o : Obj) (w : World) : ((w.alloc o).alloc (ob 0 0 0)).cell? ⟨w.heap.size + 1, 0, none⟩ = some (.int .i64 0) ∧ ((w.alloc o).alloc (ob 0 0 0)).cell? ⟨w.heap.size + 1, 1, none⟩ = some (.int .u64 0) ∧ ((w.alloc o).alloc (ob 0 0 0)).cell? ⟨w.heap.size + 1, 2, none⟩ = some (.int .u64 0) ∧ ∀ i, ((w.alloc o).alloc (ob 0 0 0)).frozen? ⟨w.heap.size + 1, i, none⟩ = false := by
  have hs : (w.alloc o).heap.size = w.heap.size + 1 := by simp
  refine ⟨?_, ?_, ?_, fun i => ?_⟩ <;> rw [← hs]
  · unfold World.cell?; rw [World.alloc_heap_new]; rfl
  · unfold World.cell?; rw [World.alloc_heap_new]; rfl
  · unfold World.cell?; rw [World.alloc_heap_new]; rfl
  · unfold World.frozen?; rw [World.alloc_heap_new]; rfl

set_option maxHeartbeats 1000000 in
set_option maxRecDepth 100000 in
theorem reg_ask (sl : Option Addr) (n c : Nat) (l : List Rs) (w : World) (hl : RS w sl n c l) : Calls Tryz.prog 92 #[kE, .slice sl n c] w (AE (if 0 < l.length then (zeroC, false) else (⟨1, 0, 0⟩, true)) w) := by
  rw [hl.len]
  by_cases h : 0 < n
  · have h2 : (0 : Int) < n := by omega
    rw [if_pos h]
    clear hl
    go_enter Tryz.func92, Tryz.ntmps92
    go_wp2_with (fail)
    refine bodyPost_ret (v := .tuple #[ov 0 0 0, .bool false]) (by simp [results, Tryz.results92, go_sem]) rfl ?_
    exact ⟨rfl, by repeat (first | exact Ext.refl _ | refine Ext.alloc ?_ _ | refine Ext.setCell ?_ (by simp) _)⟩
  · have h2 : ¬ (0 : Int) < n := by omega
    rw [if_neg h]
    clear hl
    go_enter Tryz.func92, Tryz.ntmps92
    go_wp2_with (fail)
    refine bodyPost_ret (v := .tuple #[ov 1 0 0, .bool true]) (by simp [results, Tryz.results92, go_sem]) rfl ?_
    exact ⟨rfl, by repeat (first | exact Ext.refl _ | refine Ext.alloc ?_ _ | refine Ext.setCell ?_ (by simp) _)⟩

set_option maxHeartbeats 1000000 in
set_option maxRecDepth 100000 in
theorem ballot_ask (m : Int) (hm : 1 ≤ m ∧ m ≤ 256) (sl : Option Addr) (n c : Nat) (l : List Rs) (w : World) (hl : RS w sl n c l) : Calls Tryz.prog 144 #[.agg #[.int .i64 m], .slice sl n c] w
    (AE (if l.length = 0 then (⟨16, 0, 0⟩, true) else if l.length ≤ 8 then (⟨14, (l.length : Int), 0⟩, true) else if (l.length : Int) ≤ 8 + m then (⟨15, (l.length : Int) - 9, 0⟩, true) else (zeroC, false)) w) := by
  rw [hl.len]
  have hn := hl.le
  have b0 : ((n : Int) == 0) = decide (n = 0) := by by_cases h : n = 0 <;> simp [h]
  have hu := len_u64 hn
  have hw9 : RowKit.wrap64 (9 + m) = 9 + m := by simp only [RowKit.wrap64]; omega
  have hw9' : IntKind.i64.wrap (9 + m) = 9 + m := by simp only [IntKind.wrap_i64]; omega
  by_cases h0 : n = 0
  · rw [if_pos h0]
    rw [decide_eq_true h0] at b0
    clear h0
    clear hl
    go_enter Tryz.func144, Tryz.ntmps144
    go_wp2_with (fail)
    refine bodyPost_ret (v := .tuple #[ov 16 0 0, .bool true]) (by simp [results, Tryz.results144, go_sem]) rfl ?_
    exact ⟨rfl, by repeat (first | exact Ext.refl _ | refine Ext.alloc ?_ _ | refine Ext.setCell ?_ (by simp) _)⟩
  rw [if_neg h0]
  rw [decide_eq_false h0] at b0
  by_cases h8 : n ≤ 8
  · rw [if_pos h8]
    have b8 : (n : Int) < 9 := by omega
    clear h0 h8
    clear hl
    go_enter Tryz.func144, Tryz.ntmps144
    go_wp2_with (fail)
    refine bodyPost_ret (v := .tuple #[ov 14 n 0, .bool true]) (by simp [results, Tryz.results144, go_sem]) rfl ?_
    exact ⟨rfl, by repeat (first | exact Ext.refl _ | refine Ext.alloc ?_ _ | refine Ext.setCell ?_ (by simp) _)⟩
  rw [if_neg h8]
  have b8 : ¬ (n : Int) < 9 := by omega
  by_cases hM : (n : Int) ≤ 8 + m
  · rw [if_pos hM]
    have bM : (n : Int) < 9 + m := by omega
    have hu2 : IntKind.u64.wrap ((n : Int) - 9) = (n : Int) - 9 := by simp only [IntKind.wrap_u64]; omega
    have hu3 : RowKit.wrap64 ((n : Int) - 9) = (n : Int) - 9 := by simp only [RowKit.wrap64]; omega
    have hu4 : IntKind.i64.wrap ((n : Int) - 9) = (n : Int) - 9 := by simp only [IntKind.wrap_i64]; omega
    clear h0 h8 hM
    clear hl
    go_enter Tryz.func144, Tryz.ntmps144
    go_wp2_with (fail)
    refine bodyPost_ret (v := .tuple #[ov 15 ((n : Int) - 9) 0, .bool true]) (by simp [results, Tryz.results144, go_sem]) rfl ?_
    exact ⟨rfl, by repeat (first | exact Ext.refl _ | refine Ext.alloc ?_ _ | refine Ext.setCell ?_ (by simp) _)⟩
  · rw [if_neg hM]
    have bM : ¬ (n : Int) < 9 + m := by omega
    clear h0 h8 hM
    clear hl
    go_enter Tryz.func144, Tryz.ntmps144
    go_wp2_with (fail)
    refine bodyPost_ret (v := .tuple #[ov 0 0 0, .bool false]) (by simp [results, Tryz.results144, go_sem]) rfl ?_
    exact ⟨rfl, by repeat (first | exact Ext.refl _ | refine Ext.alloc ?_ _ | refine Ext.setCell ?_ (by simp) _)⟩

end Go.Proofs.YtdipddnnckfnmaaGreat.Lan

/- LanOn:
  onward, pairs, ask of a set and of a table, and Probe. Conditions: what was told are answers, at most so many.
-/
namespace Go.Proofs.YtdipddnnckfnmaaGreat.Lan
open Go.RowKit (Below intOf)
open Go.Proofs.YtdipddnnckfnmaaGreat.Aut
open Go.Proofs.YtdipddnnckfnmaaGreat.Reg (cf bx fits_any)

theorem fro_alloc {w : World} {b o : Nat} {v : Value} {x : Obj} (h : w.cell? ⟨b, o, none⟩ = some v) (hf : w.frozen? ⟨b, o, none⟩ = false) : (w.alloc x).frozen? ⟨b, o, none⟩ = false := ((Ext.new w x).frozen h).trans hf
theorem bad_take {l : List Rs} {i : Nat} {r : Rs} (h : l[i]? = some r) (hr : r.1 ≠ 0) : badR l = true := by
  unfold badR; rw [List.any_eq_true]; exact ⟨r, List.mem_of_getElem? h, decide_eq_true hr⟩
theorem bad_no {l : List Rs} (h : ∀ (j : Nat) r, j < l.length → l[j]? = some r → r.1 = 0) : ¬ badR l = true := fun c => by
  unfold badR at c; rw [List.any_eq_true] at c
  obtain ⟨r, hr, h3⟩ := c
  obtain ⟨i, hi⟩ := List.mem_iff_getElem?.1 hr
  exact of_decide_eq_true h3 (h i r (List.getElem?_eq_some_iff.1 hi).1 hi)

set_option maxHeartbeats 2000000 in
set_option maxRecDepth 100000 in
theorem onward_any {k : Int} {T : TypeId} {fk fr fl : Nat} (I : KI k T fk fr fl) (m : Int) (sl : Option Addr) (n c : Nat) (l : List Rs) (w : World) (hl : RS w sl n c l) :
    Calls Tryz.prog 113 #[kd T m, .slice sl n c] w (AE (onwardS k l) w) := by
  obtain ⟨k0, k1⟩ := kb_new T m w
  have hK0 : ((w.alloc (kb T m)).alloc (ob 0 0 0)).cell? ⟨w.heap.size, 0, none⟩ = some (.iface T kE) := box_alloc k0
  obtain ⟨r0, r1, r2, rf⟩ := res_new (kb T m) w
  have X0 := Lib.hid ((Ext.new w (kb T m)).alloc (ob 0 0 0))
  have h1 := I.lm
  have h2 := I.el
  have HL := Lib.hid (fun w => I.cl w)
  have hn := hl.le
  have HR := Lib.hid hl
  have Hres : ∀ i, ((w.alloc (kb T m)).alloc (ob 0 0 0)).frozen? ⟨w.heap.size + 1, i, none⟩ = false := rf
  clear I hl k0 k1 rf
  dsimp only [kd, kb, ob] at *
  go_enter Tryz.func113, Tryz.ntmps113
  go_wp2_with (fail)
  go_loopg [10] n (fun kx s10 wr => ∃ i : Nat, s10 = .int .i64 i ∧ i ≤ n ∧ n - i ≤ kx ∧ RowKit.Hid (Ext ((w.alloc (.cells #[.iface T kE, .int .i64 m] 104)).alloc (.cells #[.int .i64 0, .int .u64 0, .int .u64 0] 32)) wr) ∧ RowKit.Hid (∀ (j : Nat) r, j < i → l[j]? = some r → r.1 = 0))
  case atStart => exact ⟨0, rfl, Nat.zero_le _, by omega, Lib.hid (Ext.refl _), Lib.hid fun j y hj => absurd hj (Nat.not_lt_zero _)⟩
  case round =>
    obtain ⟨i, rfl, hi, hg, S1, J⟩ := hrel
    have c0 := S1.out.cell hK0
    have g0 := S1.out.cell r0
    have g1 := S1.out.cell r1
    have g2 := S1.out.cell r2
    have z0 := (S1.out.frozen r0).trans (Hres 0)
    have z1 := (S1.out.frozen r1).trans (Hres 1)
    have z2 := (S1.out.frozen r2).trans (Hres 2)
    have X1 : RowKit.Hid (Ext w wr) := Lib.hid (X0.out.trans S1.out)
    clear hK0 r0 r1 r2 Hres X0
    by_cases hlt : i < n
    · have hlt2 : (i : Int) < n := by omega
      obtain ⟨⟨e, v⟩, hy, hyu, b, o, rfl, hyc, hyd⟩ := HR.out.get hlt
      have cm := X1.out.cell hyc
      have cd := X1.out.cell hyd
      clear hyc hyd hyu
      have HY := Lib.hid hy
      clear hy HL
      dsimp only at cm cd
      by_cases he : e = 0
      · have he2 : (e != 0) = false := by simp [he]
        have HE := Lib.hid he
        clear he
        go_wp2_with (fail)
        go_roundg (n - (i + 1))
        case measure => omega
        case rel =>
          refine ⟨i + 1, by first | rfl | (congr 1; omega), by omega, by omega, Lib.hid (by repeat (first | exact S1.out | refine Ext.alloc ?_ _ | refine Ext.setCell ?_ (by have := S1.out.size; simp at this; simp; omega) _)), Lib.hid fun j r hj hr => ?_⟩
          by_cases e2 : j < i
          · exact J.out j r e2 hr
          · obtain rfl : j = i := by omega
            rw [HY.out] at hr; cases hr; exact HE.out
      · have he2 : (e != 0) = true := by simpa using he
        have hq : RowKit.Hid (onwardS k l = (zeroC, false)) := Lib.hid (by unfold onwardS; rw [if_pos (bad_take HY.out he)])
        clear he
        have y0 := box_alloc (x := .cells #[.int .i64 e, .int .u64 v] 51) g0
        have y1 := box_alloc (x := .cells #[.int .i64 e, .int .u64 v] 51) g1
        have y2 := box_alloc (x := .cells #[.int .i64 e, .int .u64 v] 51) g2
        have q0 := fro_alloc (x := .cells #[.int .i64 e, .int .u64 v] 51) g0 z0
        have q1 := fro_alloc (x := .cells #[.int .i64 e, .int .u64 v] 51) g1 z1
        have q2 := fro_alloc (x := .cells #[.int .i64 e, .int .u64 v] 51) g2 z2
        go_wp2_with (fail)
        refine bodyPost_ret (v := .tuple #[ov 0 0 0, .bool false]) (by simp [results, Tryz.results113, go_sem, y0, y1, y2]) rfl ?_
        rw [hq.out]
        exact ⟨rfl, by repeat (first | exact X1.out | refine Ext.alloc ?_ _ | refine Ext.setCell ?_ (by simp) _)⟩
    · obtain rfl : i = n := by omega
      have hlt2 : ¬ (i : Int) < i := by omega
      have hb := bad_no (l := l) (by rw [HR.out.len]; exact J.out)
      by_cases h0 : i = 0
      · subst h0
        have hq : RowKit.Hid (onwardS k l = (⟨8, if k = 4 then 18442240474082181120 else 0, 0⟩, true)) := Lib.hid (by unfold onwardS; rw [if_neg hb, if_pos (List.eq_nil_of_length_eq_zero HR.out.len)])
        generalize (if k = 4 then (18442240474082181120 : Int) else 0) = L at *
        clear hb J HR
        have y0 := box_alloc (x := .cells #[] T) g0
        have y1 := box_alloc (x := .cells #[] T) g1
        have y2 := box_alloc (x := .cells #[] T) g2
        have q0 := fro_alloc (x := .cells #[] T) g0 z0
        have q1 := fro_alloc (x := .cells #[] T) g1 z1
        have q2 := fro_alloc (x := .cells #[] T) g2 z2
        go_wp2_with (first | (go_at_fn fl; (with_reducible refine (HL.out _).mono ?_); rintro e w' ⟨rfl, rfl⟩))
        refine bodyPost_ret (v := .tuple #[ov 8 L 0, .bool true]) (by simp [results, Tryz.results113, go_sem, y0, y1, y2]) rfl ?_
        rw [hq.out]
        exact ⟨rfl, by repeat (first | exact X1.out | refine Ext.alloc ?_ _ | refine Ext.setCell ?_ (by simp) _)⟩
      · obtain ⟨d, rfl⟩ : ∃ d, i = d + 1 := ⟨i - 1, by omega⟩
        obtain ⟨⟨e, v⟩, hy, hyu, b, o, rfl, hyc, hyd⟩ := HR.out.get (k := d) (by omega)
        have cd := X1.out.cell hyd
        have hll := HR.out.len
        have hq : RowKit.Hid (onwardS k l = (⟨8, v, 1⟩, true)) := Lib.hid (by
          unfold onwardS; rw [if_neg hb, if_neg (fun c => by rw [c] at hll; simp at hll), hll, Nat.add_sub_cancel, List.getD_eq_getElem?_getD, hy]; rfl)
        have hj2 : ((d + 1 : Nat) : Int) - 1 = d := by omega
        have hj3 : RowKit.wrap64 (d : Int) = d := by simp only [RowKit.wrap64]; omega
        have hj4 : IntKind.i64.wrap (d : Int) = d := by simp only [IntKind.wrap_i64]; omega
        have hj5 : ((d : Int) + 1) - 1 = d := by omega
        have hj6 : ((d : Int) + 1 == 0) = false := by simp; omega
        have hj7 : ((d + 1 : Nat) : Int) = (d : Int) + 1 := by omega
        clear hb J HR hyc hyd hyu hy HL hll
        dsimp only at cd
        go_wp2_with (fail)
        refine bodyPost_ret (v := .tuple #[ov 8 v 1, .bool true]) (by simp [results, Tryz.results113, go_sem, g0, g1, g2]) rfl ?_
        rw [hq.out]
        exact ⟨rfl, by repeat (first | exact X1.out | refine Ext.alloc ?_ _ | refine Ext.setCell ?_ (by simp) _)⟩

end Go.Proofs.YtdipddnnckfnmaaGreat.Lan

/- LanPairs:
  pairs: what was told of keys, and of their values. Conditions: what was told are answers, at most so many.
-/
namespace Go.Proofs.YtdipddnnckfnmaaGreat.Lan
open Go.RowKit (Below intOf)
open Go.Proofs.YtdipddnnckfnmaaGreat.Aut
open Go.Proofs.YtdipddnnckfnmaaGreat.Reg (cf bx fits_any)

/-- append of one answer onto a row of one's own. -/
theorem addRS {w : World} {base n c : Nat} {sl : Option Addr} {ys : List Rs} (hown : w.ownsRow base 51 2 (.slice sl n c) n (flatRS ys)) {b : Nat} {z : Rs} (hS : RS w (some ⟨b, 0, none⟩) 1 1 [z]) (hle : n + 1 ≤ 4194304) (hbase : base ≤ w.heap.size) :
    ∃ sl' c' w', RowKit.Hid ((Builtin.append_ #[33, 33] 33 #[.slice sl n c, .slice (some ⟨b, 0, none⟩) 1 1]).run Tryz.prog w = .ok (.slice sl' (n + 1) c') w') ∧ w'.ownsRow base 51 2 (.slice sl' (n + 1) c') (n + 1) (flatRS (ys ++ [z])) ∧ w.grownBy w' (Value.slice sl n c).ownBlock ∧
      ((Value.slice sl' (n + 1) c').ownBlock = (Value.slice sl n c).ownBlock ∨ (Value.slice sl' (n + 1) c').ownBlock = some w.heap.size) := by
  obtain ⟨i0, hi, hz0, hz1, hz2⟩ := info_parts infoRS
  obtain ⟨v', w', hrun, h2, h3, _, h5⟩ := run_append_own_at (P := Tryz.prog) w base 33 33 51 i0 _ 2 16 Tryz.underlying33 hi hz0 hz1 hz2 rfl (by decide) _ n (flatRS ys) hown ⟨b, 0, none⟩ 1 1 (flatRS [z]) (by rw [flatRS_len]; rfl) hS.news (flatRS_one [z]) (by unfold maxLen; omega) (by omega) hbase
  obtain ⟨sl', c', rfl⟩ := own_form h2
  exact ⟨sl', c', w', Lib.hid hrun, by rw [flatRS_append]; exact h2, h3, h5⟩

/-- Two rows of one's own, apart. -/
structure TwoR (W w : World) (ka : Option Addr) (kn kc : Nat) (va : Option Addr) (vn vc : Nat) (xs ys : List Rs) : Prop where
  k : w.ownsRow W.heap.size 51 2 (.slice ka kn kc) kn (flatRS xs)
  v : w.ownsRow W.heap.size 51 2 (.slice va vn vc) vn (flatRS ys)
  a : (Value.slice ka kn kc).ownBlock = none ∨ (Value.slice ka kn kc).ownBlock ≠ (Value.slice va vn vc).ownBlock
  lk : xs.length = kn
  lv : ys.length = vn
  e : Ext W w
theorem TwoR.swap {W w : World} {ka : Option Addr} {kn kc : Nat} {va : Option Addr} {vn vc : Nat} {xs ys : List Rs} (h : TwoR W w ka kn kc va vn vc xs ys) : TwoR W w va vn vc ka kn kc ys xs :=
  ⟨h.v, h.k, by
    rcases h.a with c | c
    · by_cases d : (Value.slice va vn vc).ownBlock = none
      · exact .inl d
      · exact .inr (by rw [c]; exact d)
    · exact .inr c.symm, h.lv, h.lk, h.e⟩
theorem TwoR.alloc {W w : World} {ka : Option Addr} {kn kc : Nat} {va : Option Addr} {vn vc : Nat} {xs ys : List Rs} (h : TwoR W w ka kn kc va vn vc xs ys) (o : Obj) : TwoR W (w.alloc o) ka kn kc va vn vc xs ys :=
  ⟨h.k.alloc o, h.v.alloc o, h.a, h.lk, h.lv, h.e.alloc o⟩
theorem TwoR.add {W w : World} {ka : Option Addr} {kn kc : Nat} {va : Option Addr} {vn vc : Nat} {xs ys : List Rs} (h : TwoR W w ka kn kc va vn vc xs ys) {b : Nat} {z : Rs} (hS : RS w (some ⟨b, 0, none⟩) 1 1 [z]) (hle : kn + 1 ≤ 4194304) :
    ∃ sl' c' w', RowKit.Hid ((Builtin.append_ #[33, 33] 33 #[.slice ka kn kc, .slice (some ⟨b, 0, none⟩) 1 1]).run Tryz.prog w = .ok (.slice sl' (kn + 1) c') w') ∧ TwoR W w' sl' (kn + 1) c' va vn vc (xs ++ [z]) ys := by
  obtain ⟨sl', c', w', h1, h2, h3, h4⟩ := addRS h.k hS hle h.e.size
  have hv := h.v.lt
  refine ⟨sl', c', w', h1, h2, h.v.kept h3 ?_, ?_, by rw [List.length_append, h.lk]; rfl, h.lv, h.e.grown h3 (own_ge h.k)⟩
  · exact (TwoR.swap h).a
  · rcases h4 with c | c
    · rw [c]; exact h.a
    · right
      rw [c]
      intro d
      have := (hv _ d.symm).2
      omega

set_option maxHeartbeats 2000000 in
set_option maxRecDepth 100000 in
theorem pairs_any (sl : Option Addr) (n c : Nat) (l : List Rs) (w : World) (hl : RS w sl n c l) :
    Calls Tryz.prog 139 #[.slice sl n c] w fun e w' => ∃ k v : Sl, e = .returned (.tuple #[.slice k.a k.n k.c, .slice v.a v.n v.c]) ∧ RS w' k.a k.n k.c (evR l) ∧ RS w' v.a v.n v.c (odR l) ∧ Ext w w' := by
  have hn := hl.le
  have HR := Lib.hid hl
  clear hl
  go_enter Tryz.func139, Tryz.ntmps139
  go_wp2_with (fail)
  go_loopg [2, 3, 8] n (fun kx s2 s3 s8 wr => ∃ (i : Nat) (ka : Option Addr) (kn kc : Nat) (va : Option Addr) (vn vc : Nat), s8 = .int .i64 i ∧ s2 = .slice ka kn kc ∧ s3 = .slice va vn vc ∧ i ≤ n ∧ n - i ≤ kx ∧ RowKit.Hid (TwoR w wr ka kn kc va vn vc (evR (l.take i)) (odR (l.take i))))
  case atStart => exact ⟨0, none, 0, 0, none, 0, 0, rfl, rfl, rfl, Nat.zero_le _, by omega, Lib.hid ⟨World.ownsRow_nil _ _ _ _, World.ownsRow_nil _ _ _ _, .inl rfl, rfl, rfl, Ext.refl _⟩⟩
  case round =>
    obtain ⟨i, ka, kn, kc, va, vn, vc, rfl, rfl, rfl, hi, hg, D⟩ := hrel
    by_cases hlt : i < n
    · have hlt2 : (i : Int) < n := by omega
      obtain ⟨⟨e, v⟩, hy, hyu, b, o, rfl, hyc, hyd⟩ := HR.out.get hlt
      have cm := D.out.e.cell hyc
      have cd := D.out.e.cell hyd
      dsimp only at cm cd
      have hti : (l.take i).length = i := by rw [List.length_take, HR.out.len]; omega
      have hsn := take_snoc hy
      have hRS := Lib.hid (RS.lit (wr.alloc (.cells #[.int .i64 e, .int .u64 v] 51)) (e, v) hyu)
      simp only [World.size_alloc] at hRS
      have hD := D.out
      have lk1 := hD.lk
      have lv1 := hD.lv
      rw [evR_len, hti] at lk1
      rw [odR_len, hti] at lv1
      clear hyc hyd hyu hy
      by_cases hp : i % 2 = 0
      · have hp2 : ((i : Int) % 2 == 0) = true := beq_iff_eq.2 (by omega)
        have e1 : RowKit.Hid (evR (l.take (i + 1)) = evR (l.take i) ++ [(e, v)]) := Lib.hid (by rw [hsn, evR_snoc, hti, if_pos hp])
        have e2 : RowKit.Hid (odR (l.take (i + 1)) = odR (l.take i)) := Lib.hid (by rw [hsn, odR_snoc, hti, if_pos hp])
        obtain ⟨sx, cx, wx, RX, DX⟩ := ((hD.alloc (.cells #[.int .i64 e, .int .u64 v] 51)).alloc (.cells #[.int .i64 e, .int .u64 v] 51)).add hRS.out (by omega)
        replace DX := Lib.hid DX
        clear hD hsn hti lk1 lv1 hp
        go_wp2_with (first | (at_builtin; refine Lib.wpList_append_run _ rfl (.tmp 16) (.tmp 18) _ _ rfl _ _ rfl rfl _ _ RX.out ?_))
        go_roundg (n - (i + 1))
        case measure => omega
        case rel => exact ⟨i + 1, sx, kn + 1, cx, va, vn, vc, by first | rfl | (congr 1; omega), rfl, rfl, by omega, by omega, Lib.hid (by rw [e1.out, e2.out]; exact DX.out)⟩
      · have hp2 : ((i : Int) % 2 == 0) = false := beq_eq_false_iff_ne.2 (by omega)
        have e1 : RowKit.Hid (evR (l.take (i + 1)) = evR (l.take i)) := Lib.hid (by rw [hsn, evR_snoc, hti, if_neg hp])
        have e2 : RowKit.Hid (odR (l.take (i + 1)) = odR (l.take i) ++ [(e, v)]) := Lib.hid (by rw [hsn, odR_snoc, hti, if_neg hp])
        obtain ⟨sx, cx, wx, RX, DX⟩ := ((hD.swap.alloc (.cells #[.int .i64 e, .int .u64 v] 51)).alloc (.cells #[.int .i64 e, .int .u64 v] 51)).add hRS.out (by omega)
        replace DX := Lib.hid DX
        clear hD hsn hti lk1 lv1 hp
        go_wp2_with (first | (at_builtin; refine Lib.wpList_append_run _ rfl (.tmp 20) (.tmp 22) _ _ rfl _ _ rfl rfl _ _ RX.out ?_))
        go_roundg (n - (i + 1))
        case measure => omega
        case rel => exact ⟨i + 1, ka, kn, kc, sx, vn + 1, cx, by first | rfl | (congr 1; omega), rfl, rfl, by omega, by omega, Lib.hid (by rw [e1.out, e2.out]; exact DX.out.swap)⟩
    · obtain rfl : i = n := by omega
      have hlt2 : ¬ (i : Int) < i := by omega
      have ht : l.take i = l := by rw [← HR.out.len]; exact List.take_length
      have hf : RowKit.Hid (RS wr ka kn kc (evR l) ∧ RS wr va vn vc (odR l) ∧ Ext w wr) := Lib.hid (by
        have h := D.out
        rw [ht] at h
        have l1 := h.lk
        have l2 := h.lv
        have l3 := HR.out.len
        refine ⟨RS.of_own h.k h.lk (by rw [← l1, evR_len]; omega) (fun y hy => HR.out.range y (evR_mem hy)), RS.of_own h.v h.lv (by rw [← l2, odR_len]; omega) (fun y hy => HR.out.range y (odR_mem hy)), h.e⟩)
      clear D HR ht
      go_wp2_with (fail)
      go_ret2
      exact ⟨⟨ka, kn, kc⟩, ⟨va, vn, vc⟩, rfl, hf.out⟩

end Go.Proofs.YtdipddnnckfnmaaGreat.Lan

/- LanProbe:
  ask of a set and of a table, and Probe. Conditions: what was told are answers, at most so many.
-/
namespace Go.Proofs.YtdipddnnckfnmaaGreat.Lan
open Go.RowKit (Below intOf)
open Go.Proofs.YtdipddnnckfnmaaGreat.Aut
open Go.Proofs.YtdipddnnckfnmaaGreat.Reg (cf bx fits_any)

/-- Op boxes that may be written. -/
theorem op_facts {w W : World} {o : Obj} (h : Ext ((w.alloc o).alloc (ob 0 0 0)) W) : (W.cell? ⟨w.heap.size + 1, 0, none⟩ = some (.int .i64 0) ∧ W.cell? ⟨w.heap.size + 1, 1, none⟩ = some (.int .u64 0) ∧ W.cell? ⟨w.heap.size + 1, 2, none⟩ = some (.int .u64 0)) ∧
    W.frozen? ⟨w.heap.size + 1, 0, none⟩ = false ∧ W.frozen? ⟨w.heap.size + 1, 1, none⟩ = false ∧ W.frozen? ⟨w.heap.size + 1, 2, none⟩ = false := by
  obtain ⟨r0, r1, r2, rf⟩ := res_new o w
  exact ⟨⟨h.cell r0, h.cell r1, h.cell r2⟩, (h.frozen r0).trans (rf 0), (h.frozen r1).trans (rf 1), (h.frozen r2).trans (rf 2)⟩

set_option maxHeartbeats 1000000 in
set_option maxRecDepth 100000 in
theorem set_ask {k : Int} {T : TypeId} {fk fr fl : Nat} (I : KI k T fk fr fl) (m : Int) (sl : Option Addr) (n c : Nat) (l : List Rs) (w : World) (hl : RS w sl n c l) :
    Calls Tryz.prog 109 #[kd T m, .slice sl n c] w (AE (onwardS k l) w) := by
  have X0 := Lib.hid ((Ext.new w (kbt 106 T m)).alloc (ob 0 0 0))
  have HN := Lib.hid (onward_any I m sl n c l _ (hl.ext X0.out))
  have OF : RowKit.Hid (∀ W, _) := Lib.hid fun W => @op_facts w W (kbt 106 T m)
  have k0 : ((w.alloc (kbt 106 T m)).alloc (ob 0 0 0)).cell? ⟨w.heap.size, 0, none⟩ = some (.iface T kE) := box_alloc (by unfold World.cell?; rw [World.alloc_heap_new]; rfl)
  have k1 : ((w.alloc (kbt 106 T m)).alloc (ob 0 0 0)).cell? ⟨w.heap.size, 1, none⟩ = some (.int .i64 m) := box_alloc (by unfold World.cell?; rw [World.alloc_heap_new]; rfl)
  generalize onwardS k l = r at *
  obtain ⟨⟨rc, rk, rv'⟩, rm⟩ := r
  clear hl I
  dsimp only [AE, kd, kb, kbt, ob, ov, opv] at *
  go_enter Tryz.func109, Tryz.ntmps109
  go_wp2_with (first | (go_at_call 113; (with_reducible refine HN.out.mono ?_); rintro e w1 ⟨rfl, hE⟩; obtain ⟨⟨g0, g1, g2⟩, z0, z1, z2⟩ := OF.out w1 hE; have X1 : RowKit.Hid (Ext w w1) := Lib.hid (X0.out.trans hE); clear hE OF HN X0))
  refine bodyPost_ret (v := .tuple #[ov rc rk rv', .bool rm]) (by simp [results, Tryz.results109, go_sem, g0, g1, g2]) rfl ?_
  exact ⟨rfl, by repeat (first | exact X1.out | refine Ext.setCell ?_ (by simp) _)⟩

set_option maxHeartbeats 2000000 in
set_option maxRecDepth 100000 in
theorem table_ask {k : Int} {T : TypeId} {fk fr fl : Nat} (I : KI k T fk fr fl) (m : Int) (sl : Option Addr) (n c : Nat) (l : List Rs) (w : World) (hl : RS w sl n c l) :
    Calls Tryz.prog 135 #[kd T m, .slice sl n c] w (AE (askT k l) w) := by
  have X0 := Lib.hid ((Ext.new w (kbt 107 T m)).alloc (ob 0 0 0))
  have HP := Lib.hid (pairs_any sl n c l _ (hl.ext X0.out))
  have OF : RowKit.Hid (∀ W, _) := Lib.hid fun W => @op_facts w W (kbt 107 T m)
  have k0 : ((w.alloc (kbt 107 T m)).alloc (ob 0 0 0)).cell? ⟨w.heap.size, 0, none⟩ = some (.iface T kE) := box_alloc (by unfold World.cell?; rw [World.alloc_heap_new]; rfl)
  have k1 : ((w.alloc (kbt 107 T m)).alloc (ob 0 0 0)).cell? ⟨w.heap.size, 1, none⟩ = some (.int .i64 m) := box_alloc (by unfold World.cell?; rw [World.alloc_heap_new]; rfl)
  have HO : RowKit.Hid (∀ sl n c W, RS W sl n c (evR l) → Calls Tryz.prog 113 #[kd T m, .slice sl n c] W (AE (onwardS k (evR l)) W)) := Lib.hid fun sl n c W h => onward_any I m sl n c (evR l) W h
  unfold askT
  generalize onwardS k (evR l) = r at *
  obtain ⟨⟨rc, rk, rv'⟩, rm⟩ := r
  clear hl I
  dsimp only [AE, kd, kb, kbt, ob, ov, opv] at *
  cases rm
  · rw [if_neg (by simp)]
    go_enter Tryz.func135, Tryz.ntmps135
    go_wp2_with (first
      | (go_at_call 139; (with_reducible refine HP.out.mono ?_); rintro e w1 ⟨⟨ka, kn, kc⟩, ⟨va, vn, vc⟩, rfl, hk, hv, hE1⟩; replace k0 := hE1.cell k0; replace k1 := hE1.cell k1; have HC := Lib.hid (HO.out _ _ _ _ hk); have hkl := Lib.hid hk.len; have hvl := Lib.hid hv.len; have hkb := hk.le; have hvb := hv.le; clear hk hv HO HP)
      | (go_at_call 113; (with_reducible refine HC.out.mono ?_); rintro e w2 ⟨rfl, hE⟩; obtain ⟨⟨g0, g1, g2⟩, z0, z1, z2⟩ := OF.out w2 (hE1.trans hE); have X1 : RowKit.Hid (Ext w w2) := Lib.hid (X0.out.trans (hE1.trans hE)); have y0 := box_alloc (x := .cells #[.int .i64 rc, .int .u64 rk, .int .u64 rv'] 32) g0; have y1 := box_alloc (x := .cells #[.int .i64 rc, .int .u64 rk, .int .u64 rv'] 32) g1; have y2 := box_alloc (x := .cells #[.int .i64 rc, .int .u64 rk, .int .u64 rv'] 32) g2; have q0 := fro_alloc (x := .cells #[.int .i64 rc, .int .u64 rk, .int .u64 rv'] 32) g0 z0; have q1 := fro_alloc (x := .cells #[.int .i64 rc, .int .u64 rk, .int .u64 rv'] 32) g1 z1; have q2 := fro_alloc (x := .cells #[.int .i64 rc, .int .u64 rk, .int .u64 rv'] 32) g2 z2; clear hE hE1 OF HC X0 k0 k1))
    refine bodyPost_ret (v := .tuple #[ov rc rk rv', .bool false]) (by simp [results, Tryz.results135, go_sem, y0, y1, y2]) rfl ?_
    exact ⟨rfl, by repeat (first | exact X1.out | refine Ext.alloc ?_ _ | refine Ext.setCell ?_ (by simp) _)⟩
  · by_cases hlt : (odR l).length < (evR l).length
    · rw [if_pos ⟨rfl, hlt⟩]
      have HLt := Lib.hid hlt
      clear hlt
      go_enter Tryz.func135, Tryz.ntmps135
      go_wp2_with (first
      | (go_at_call 139; (with_reducible refine HP.out.mono ?_); rintro e w1 ⟨⟨ka, kn, kc⟩, ⟨va, vn, vc⟩, rfl, hk, hv, hE1⟩; replace k0 := hE1.cell k0; replace k1 := hE1.cell k1; have HC := Lib.hid (HO.out _ _ _ _ hk); have hkl := Lib.hid hk.len; have hvl := Lib.hid hv.len; have hkb := hk.le; have hvb := hv.le; have hq : (vn : Int) < kn := (by have h1 := HLt.out; rw [hk.len, hv.len] at h1; dsimp only at h1; omega); clear hk hv HO HP)
      | (go_at_call 113; (with_reducible refine HC.out.mono ?_); rintro e w2 ⟨rfl, hE⟩; obtain ⟨⟨g0, g1, g2⟩, z0, z1, z2⟩ := OF.out w2 (hE1.trans hE); have X1 : RowKit.Hid (Ext w w2) := Lib.hid (X0.out.trans (hE1.trans hE)); have y0 := box_alloc (x := .cells #[.int .i64 rc, .int .u64 rk, .int .u64 rv'] 32) g0; have y1 := box_alloc (x := .cells #[.int .i64 rc, .int .u64 rk, .int .u64 rv'] 32) g1; have y2 := box_alloc (x := .cells #[.int .i64 rc, .int .u64 rk, .int .u64 rv'] 32) g2; have q0 := fro_alloc (x := .cells #[.int .i64 rc, .int .u64 rk, .int .u64 rv'] 32) g0 z0; have q1 := fro_alloc (x := .cells #[.int .i64 rc, .int .u64 rk, .int .u64 rv'] 32) g1 z1; have q2 := fro_alloc (x := .cells #[.int .i64 rc, .int .u64 rk, .int .u64 rv'] 32) g2 z2; clear hE hE1 OF HC X0 k0 k1))
      refine bodyPost_ret (v := .tuple #[ov 10 rk 0, .bool true]) (by simp [results, Tryz.results135, go_sem, y0, y1, y2]) rfl ?_
      exact ⟨rfl, by repeat (first | exact X1.out | refine Ext.alloc ?_ _ | refine Ext.setCell ?_ (by simp) _)⟩
    · rw [if_neg (fun c => hlt c.2)]
      have HLt := Lib.hid hlt
      clear hlt
      go_enter Tryz.func135, Tryz.ntmps135
      go_wp2_with (first
      | (go_at_call 139; (with_reducible refine HP.out.mono ?_); rintro e w1 ⟨⟨ka, kn, kc⟩, ⟨va, vn, vc⟩, rfl, hk, hv, hE1⟩; replace k0 := hE1.cell k0; replace k1 := hE1.cell k1; have HC := Lib.hid (HO.out _ _ _ _ hk); have hkl := Lib.hid hk.len; have hvl := Lib.hid hv.len; have hkb := hk.le; have hvb := hv.le; have hq : ¬ (vn : Int) < kn := (by have h1 := HLt.out; rw [hk.len, hv.len] at h1; dsimp only at h1; omega); clear hk hv HO HP)
      | (go_at_call 113; (with_reducible refine HC.out.mono ?_); rintro e w2 ⟨rfl, hE⟩; obtain ⟨⟨g0, g1, g2⟩, z0, z1, z2⟩ := OF.out w2 (hE1.trans hE); have X1 : RowKit.Hid (Ext w w2) := Lib.hid (X0.out.trans (hE1.trans hE)); have y0 := box_alloc (x := .cells #[.int .i64 rc, .int .u64 rk, .int .u64 rv'] 32) g0; have y1 := box_alloc (x := .cells #[.int .i64 rc, .int .u64 rk, .int .u64 rv'] 32) g1; have y2 := box_alloc (x := .cells #[.int .i64 rc, .int .u64 rk, .int .u64 rv'] 32) g2; have q0 := fro_alloc (x := .cells #[.int .i64 rc, .int .u64 rk, .int .u64 rv'] 32) g0 z0; have q1 := fro_alloc (x := .cells #[.int .i64 rc, .int .u64 rk, .int .u64 rv'] 32) g1 z1; have q2 := fro_alloc (x := .cells #[.int .i64 rc, .int .u64 rk, .int .u64 rv'] 32) g2 z2; clear hE hE1 OF HC X0 k0 k1))
      refine bodyPost_ret (v := .tuple #[ov rc rk rv', .bool true]) (by simp [results, Tryz.results135, go_sem, y0, y1, y2]) rfl ?_
      exact ⟨rfl, by repeat (first | exact X1.out | refine Ext.alloc ?_ _ | refine Ext.setCell ?_ (by simp) _)⟩

/-- How an object is asked for the read-out's next call. -/
def AsI (k p m : Int) (T : TypeId) (V : Value) (f : Nat) (V' : Value) : Prop :=
  (∀ w, Sem.run Tryz.prog (method 267 T V "whitewash/auto.ask") w = .ok (f, V') w) ∧ (∀ a w, Sem.run Tryz.prog (callFunc f #[V', a]) w = .ok (.enter f #[V', a]) w) ∧
    ∀ sl n c l w, RS w sl n c l → Calls Tryz.prog f #[V', .slice sl n c] w (AE (probeS k p m l) w)
theorem as_obj {k p m : Int} (hf : fits k p m = true) : ∃ f V', AsI k p m (oT k) (oV k m) f V' := by
  have hb := fits_of hf
  have hff : ¬ fits k p m = false := by rw [hf]; simp
  have pk : ∀ l, keyed k = true → probeS k p m l = probedS k l := fun l h => by unfold probeS; rw [if_neg hff, if_pos h]
  rcases kinds hf with rfl | rfl | rfl | rfl | rfl
  · refine ⟨92, kE, fun w => by kernel_rfl, fun a w => by kernel_rfl, fun sl n c l w hl => ?_⟩
    have : probeS 1 p m l = if 0 < l.length then (zeroC, false) else (⟨1, 0, 0⟩, true) := by unfold probeS; rw [if_neg hff, if_neg (by decide), if_pos rfl]
    rw [this]; exact reg_ask sl n c l w hl
  · obtain ⟨fk, fr, fl, I⟩ := keys_is 2
    exact ⟨109, kd (kT 2) m, fun w => by kernel_rfl, fun a w => by kernel_rfl, fun sl n c l w hl => by rw [pk l rfl, ← ask_set rfl]; exact set_ask I m sl n c l w hl⟩
  · obtain ⟨fk, fr, fl, I⟩ := keys_is 3
    exact ⟨135, kd (kT 3) m, fun w => by kernel_rfl, fun a w => by kernel_rfl, fun sl n c l w hl => by rw [pk l rfl, ← ask_table rfl]; exact table_ask I m sl n c l w hl⟩
  · obtain ⟨fk, fr, fl, I⟩ := keys_is 4
    exact ⟨135, kd (kT 4) m, fun w => by kernel_rfl, fun a w => by kernel_rfl, fun sl n c l w hl => by rw [pk l rfl, ← ask_table rfl]; exact table_ask I m sl n c l w hl⟩
  · refine ⟨144, .agg #[.int .i64 m], fun w => by kernel_rfl, fun a w => by kernel_rfl, fun sl n c l w hl => ?_⟩
    have : probeS 5 p m l = if l.length = 0 then (⟨16, 0, 0⟩, true) else if l.length ≤ 8 then (⟨14, (l.length : Int), 0⟩, true) else if (l.length : Int) ≤ 8 + m then (⟨15, (l.length : Int) - 9, 0⟩, true) else (zeroC, false) := by unfold probeS; rw [if_neg hff, if_neg (by decide), if_neg (by decide)]
    rw [this]; exact ballot_ask m ⟨hb.2.2.2.2.1, hb.2.2.2.2.2⟩ sl n c l w hl

set_option maxHeartbeats 1000000 in
set_option maxRecDepth 100000 in
theorem probe_any (k p m : Int) (sl : Option Addr) (n c : Nat) (l : List Rs) (w : World) (hl : RS w sl n c l) : Calls Tryz.prog 23 #[cf k p m, .slice sl n c] w (AE (probeS k p m l) w) := by
  have X0 := Lib.hid ((Ext.new w (bx k p m)).alloc (ob 0 0 0))
  have hF := Lib.hid (fun w => fits_any k p m w)
  have OF : RowKit.Hid (∀ W, _) := Lib.hid fun W => @op_facts w W (bx k p m)
  by_cases hf : fits k p m = true
  · obtain ⟨f, V', m1, m2, m3⟩ := as_obj hf
    have hf' : Reg.fits k p m = true := hf
    rw [hf'] at hF
    have HO := Lib.hid (fun W => object_any k p m W)
    have M3 : RowKit.Hid (∀ W, Ext w W → Calls Tryz.prog f #[V', .slice sl n c] W (AE (probeS k p m l) W)) := Lib.hid fun W hE => m3 sl n c l W (hl.ext hE)
    generalize probeS k p m l = r at *
    obtain ⟨⟨rc, rk, rv'⟩, rm⟩ := r
    generalize oT k = OT at *
    generalize oV k m = OV at *
    clear hf hf' m3 hl
    dsimp only [cf, bx, AE, ob, ov, opv] at *
    go_enter Tryz.func23, Tryz.ntmps23
    go_wp2_with (first
      | (go_at_call 35; (with_reducible refine (hF.out _).mono ?_); rintro e w' ⟨rfl, rfl⟩)
      | (go_at_call 36; (with_reducible refine (HO.out _).mono ?_); rintro e w' ⟨rfl, rfl⟩)
      | (go_at_fn f; (with_reducible refine (M3.out _ (by repeat (first | exact X0.out | refine Ext.alloc ?_ _))).mono ?_); rintro e w1 ⟨rfl, hE⟩; obtain ⟨⟨g0, g1, g2⟩, z0, z1, z2⟩ := OF.out w1 (Ext.trans (by repeat (first | exact Ext.refl _ | refine Ext.alloc ?_ _)) hE); have X1 : RowKit.Hid (Ext w w1) := Lib.hid (Ext.trans (by repeat (first | exact X0.out | refine Ext.alloc ?_ _)) hE); clear hE OF))
    refine bodyPost_ret (v := .tuple #[ov rc rk rv', .bool rm]) (by simp [results, Tryz.results23, go_sem, g0, g1, g2]) rfl ?_
    exact ⟨rfl, by repeat (first | exact X1.out | refine Ext.setCell ?_ (by simp) _)⟩
  · have hf' : Reg.fits k p m = false := Bool.eq_false_iff.2 hf
    rw [hf'] at hF
    have hN : RowKit.Hid (probeS k p m l = (zeroC, false)) := Lib.hid (by unfold probeS; rw [if_pos (Bool.eq_false_iff.2 hf)])
    clear hf hf' hl OF
    dsimp only [cf, bx, ob] at *
    go_enter Tryz.func23, Tryz.ntmps23
    go_wp2_with (first
      | (go_at_call 35; (with_reducible refine (hF.out _).mono ?_); rintro e w' ⟨rfl, rfl⟩))
    refine bodyPost_ret (v := .tuple #[ov 0 0 0, .bool false]) (by simp [results, Tryz.results23, go_sem]) rfl ?_
    rw [hN.out]
    exact ⟨rfl, by repeat (first | exact X0.out | refine Ext.alloc ?_ _ | refine Ext.setCell ?_ (by simp) _)⟩

end Go.Proofs.YtdipddnnckfnmaaGreat.Lan

/- LanBox:
  A state in a box that a call may write, what a call keeps, and answer: what a call tells, a refusal too. Conditions: the called method's own contract.
-/
namespace Go.Proofs.YtdipddnnckfnmaaGreat.Lan
open Go.RowKit (Below intOf)
open Go.Proofs.YtdipddnnckfnmaaGreat.Aut
open Go.Proofs.YtdipddnnckfnmaaGreat.Reg (cf bx fits_any)

/-- What lay ahead of all, and what lies from M on, is kept. -/
def Kp (W : World) (M : Nat) (w w' : World) : Prop := Ext W w' ∧ w.heap.size ≤ w'.heap.size ∧ ∀ b, M ≤ b → b < w.heap.size → w'.heap[b]? = w.heap[b]?
theorem Kp.refl {W w : World} {M : Nat} (h : Ext W w) : Kp W M w w := ⟨h, Nat.le_refl _, fun _ _ _ => rfl⟩
theorem Kp.ext {W w w1 w2 : World} {M : Nat} (h : Kp W M w w1) (e : Ext w1 w2) : Kp W M w w2 :=
  ⟨h.1.trans e, Nat.le_trans h.2.1 e.size, fun b h1 h2 => (e.block b (Nat.lt_of_lt_of_le h2 h.2.1)).trans (h.2.2 b h1 h2)⟩
theorem Kp.from {W w0 w w1 : World} {M : Nat} (h : Kp W M w w1) (e : Ext w0 w) : Kp W M w0 w1 :=
  ⟨h.1, Nat.le_trans e.size h.2.1, fun b h1 h2 => (h.2.2 b h1 (Nat.lt_of_lt_of_le h2 e.size)).trans (e.block b h2)⟩
theorem Kp.trans {W w w1 w2 : World} {M : Nat} (h : Kp W M w w1) (k : Kp W M w1 w2) : Kp W M w w2 :=
  ⟨k.1, Nat.le_trans h.2.1 k.2.1, fun b h1 h2 => (k.2.2 b h1 (Nat.lt_of_lt_of_le h2 h.2.1)).trans (h.2.2 b h1 h2)⟩
theorem heap_set (w : World) (B i : Nat) (v : Value) {b : Nat} (h : b ≠ B) : (w.setCell ⟨B, i, none⟩ v).heap[b]? = w.heap[b]? := by
  unfold World.setCell
  split <;> (simp only [Array.getElem?_modify]; rw [if_neg (Ne.symm h)])
theorem Kp.setCell {W w w1 : World} {M : Nat} (h : Kp W M w w1) {B i : Nat} (v : Value) (hB : W.heap.size ≤ B) (hM : B < M ∨ w.heap.size ≤ B) : Kp W M w (w1.setCell ⟨B, i, none⟩ v) :=
  ⟨h.1.setCell hB v, by rw [World.size_setCell]; exact h.2.1, fun b h1 h2 => (heap_set w1 B i v (by omega)).trans (h.2.2 b h1 h2)⟩
theorem Kp.cell {W w w1 : World} {M b o : Nat} {v : Value} (h : Kp W M w w1) (hb : M ≤ b) (hc : w.cell? ⟨b, o, none⟩ = some v) : w1.cell? ⟨b, o, none⟩ = some v := by
  have hl := World.block_lt_of_cell? w _ hc
  have := h.2.2 b hb hl
  unfold World.cell? at *
  simp only at *
  rw [this]; exact hc
theorem Kp.frozen {W w w1 : World} {M b o : Nat} {v : Value} (h : Kp W M w w1) (hb : M ≤ b) (hc : w.cell? ⟨b, o, none⟩ = some v) : w1.frozen? ⟨b, o, none⟩ = w.frozen? ⟨b, o, none⟩ := by
  have hl := World.block_lt_of_cell? w _ hc
  have := h.2.2 b hb hl
  unfold World.frozen?
  simp only at *
  rw [this]
theorem Kp.grown {W w w1 w2 : World} {M : Nat} (h : Kp W M w w1) {row : Option Nat} (g : w1.grownBy w2 row) (hr : ∀ k, row = some k → W.heap.size ≤ k ∧ (k < M ∨ w.heap.size ≤ k)) : Kp W M w w2 :=
  ⟨h.1.grown g (fun k e => (hr k e).1), Nat.le_trans h.2.1 g.size, fun b h1 h2 => (g.block b (Nat.lt_of_lt_of_le h2 h.2.1) (fun e => by have := (hr b e.symm).2; omega)).trans (h.2.2 b h1 h2)⟩

/-- A state in a box. -/
structure PB (W : World) (M : Nat) (w : World) (B : Nat) (s : St) (a v t : Sl) : Prop where
  e : Ext W w
  five : Five w B s.reg a v t s.closed
  ss : SS w a v t s
  off : ∀ b, (b < W.heap.size ∨ M ≤ b) → OffS a v t b
  hB : W.heap.size ≤ B
  hM : B < M
  hw : M ≤ w.heap.size
  fro : ∀ i, w.frozen? ⟨B, i, none⟩ = false
  offB : OffS a v t B
theorem PB.ext {W : World} {M : Nat} {w w' : World} {B : Nat} {s : St} {a v t : Sl} (h : PB W M w B s a v t) (e : Ext w w') : PB W M w' B s a v t :=
  ⟨h.e.trans e, h.five.ext e, h.ss.ext e, h.off, h.hB, h.hM, Nat.le_trans h.hw e.size, fun i => (Below.frozen (p := ⟨B, i, none⟩) e (Nat.lt_of_lt_of_le h.hM h.hw)).trans (h.fro i), h.offB⟩
/-- What a call leaves in it. -/
def QB (W : World) (M : Nat) (w w' : World) (B : Nat) (s : St) : Prop := Kp W M w w' ∧ ∃ a v t, Five w' B s.reg a v t s.closed ∧ SS w' a v t s ∧ ∀ b, (b < W.heap.size ∨ M ≤ b) → b < w.heap.size → OffS a v t b
theorem PB.read {W : World} {M : Nat} {w w' : World} {B : Nat} {s : St} {a v t : Sl} (h : PB W M w B s a v t) (e : Ext w w') : QB W M w w' B s :=
  ⟨(Kp.refl h.e).ext e, a, v, t, h.five.ext e, h.ss.ext e, fun b hb _ => h.off b hb⟩
theorem QB.ext {W : World} {M : Nat} {w w1 w2 : World} {B : Nat} {s : St} (h : QB W M w w1 B s) (e : Ext w1 w2) : QB W M w w2 B s := by
  obtain ⟨h1, a, v, t, h2, h3, h4⟩ := h
  exact ⟨h1.ext e, a, v, t, h2.ext e, h3.ext e, h4⟩
theorem QB.from {W : World} {M : Nat} {w0 w w1 : World} {B : Nat} {s : St} (h : QB W M w w1 B s) (e : Ext w0 w) : QB W M w0 w1 B s := by
  obtain ⟨h1, a, v, t, h2, h3, h4⟩ := h
  exact ⟨h1.from e, a, v, t, h2, h3, fun b hb hl => h4 b hb (Nat.lt_of_lt_of_le hl e.size)⟩
theorem five_far {w : World} {b B i : Nat} {r : Int} {k v t : Sl} {cl : Bool} {x : Value} (h : Five w b r k v t cl) (hne : b ≠ B) : Five (w.setCell ⟨B, i, none⟩ x) b r k v t cl :=
  ⟨(cell_far hne).trans h.1, (cell_far hne).trans h.2.1, (cell_far hne).trans h.2.2.1, (cell_far hne).trans h.2.2.2.1, (cell_far hne).trans h.2.2.2.2⟩
/-- A store into a box that was laid ahead of the call, from M on. -/
theorem QB.far {W : World} {M : Nat} {w0 w w1 : World} {B N i : Nat} {s : St} {x : Value} (h : QB W M w w1 B s) (e : Ext w0 w) (hw : w0.heap.size ≤ N) (hN : N < w.heap.size) (hM : M ≤ w0.heap.size) (hB : B < M) (hW : W.heap.size ≤ w0.heap.size) : QB W M w0 (w1.setCell ⟨N, i, none⟩ x) B s := by
  obtain ⟨h1, a, v, t, h2, h3, h4⟩ := h
  exact ⟨(h1.from e).setCell x (by omega) (.inr hw), a, v, t, five_far h2 (by omega), h3.set (h4 N (by omega) hN) i x, fun b hb hl => h4 b hb (Nat.lt_of_lt_of_le hl e.size)⟩

theorem assertE (x : Int) (w : World) : (Instr.typeAssert (.iface 37 (.int .i64 x)) 20 37 false).run Tryz.prog w = .ok (.int .i64 x) w := by kernel_rfl

abbrev rb0 : Obj := .cells #[.int .i64 0, .int .u64 0] 51
set_option maxRecDepth 100000 in
theorem catch_no (x : Int) (N : Nat) (e v : Int) (w : World) (h0 : w.cell? ⟨N, 0, none⟩ = some (.int .i64 e)) (h1 : w.cell? ⟨N, 1, none⟩ = some (.int .u64 v)) (z0 : w.frozen? ⟨N, 0, none⟩ = false) (z1 : w.frozen? ⟨N, 1, none⟩ = false) :
    CallsD Tryz.prog 67 #[.pointer (some ⟨N, 0, none⟩)] (.panicking (noE x)) w fun e u' w' =>
      e = .returned (.tuple #[]) ∧ u' = .panicking [{ v := .iface 37 (.int .i64 x), recovered := true }] ∧ w' = (w.setCell ⟨N, 0, none⟩ (.int .i64 x)).setCell ⟨N, 1, none⟩ (.int .u64 0) := by
  refine callsD_of_wpS Tryz.func67 rfl fun c₀ cs hu => ?_
  apply wpS_seq
  apply wpS_region
  simp [wpOpsS, go_sem, recoverD, hu, Tryz.ntmps67, Exit.thenS, noE]
  apply wpS_seq
  apply wpS_region
  simp [wpOpsS, go_sem, Exit.thenS]
  refine wpS_cond (t := true) (by simp [Act.eval, Array.replicate]) ?_
  simp only [if_true]
  apply wpS_region
  simp [wpOpsS, go_sem, assertE, h0, h1, z0, z1, bodyPostS, results, Tryz.results67]

set_option maxRecDepth 100000 in
theorem catch_idle (p : Addr) (w : World) :
    CallsD Tryz.prog 67 #[.pointer (some p)] .returning w fun e u' w' => e = .returned (.tuple #[]) ∧ u' = .returning ∧ w' = w := by
  refine callsD_of_wpS Tryz.func67 rfl fun c₀ cs hu => ?_
  apply wpS_seq
  apply wpS_region
  simp [wpOpsS, go_sem, recoverD, hu, Tryz.ntmps67, Exit.thenS]
  apply wpS_seq
  apply wpS_region
  simp [wpOpsS, go_sem, Exit.thenS]
  refine wpS_cond (t := false) (by simp [Act.eval, Array.replicate]) ?_
  simp only [Bool.false_eq_true, if_false]
  refine wpS_of_wp (wp_skip ?_)
  cases c₀
  simp_all [bodyPostS, results, Tryz.results67]

theorem ans_new (o : Obj) (w : World) : (((w.alloc o).alloc rb0).cell? ⟨w.heap.size + 1, 0, none⟩ = some (.int .i64 0) ∧ ((w.alloc o).alloc rb0).cell? ⟨w.heap.size + 1, 1, none⟩ = some (.int .u64 0)) ∧ ((w.alloc o).alloc rb0).frozen? ⟨w.heap.size + 1, 0, none⟩ = false ∧ ((w.alloc o).alloc rb0).frozen? ⟨w.heap.size + 1, 1, none⟩ = false := by
  have hs : (w.alloc o).heap.size = w.heap.size + 1 := by simp
  refine ⟨⟨?_, ?_⟩, ?_, ?_⟩ <;> rw [← hs]
  · unfold World.cell?; rw [World.alloc_heap_new]; rfl
  · unfold World.cell?; rw [World.alloc_heap_new]; rfl
  · unfold World.frozen?; rw [World.alloc_heap_new]; rfl
  · unfold World.frozen?; rw [World.alloc_heap_new]; rfl

set_option maxHeartbeats 1000000 in
set_option maxRecDepth 100000 in
theorem answer_any (T : TypeId) (V V' : Value) (f B : Nat) (oc ok ov' : Int) (r : Rs) (W : World) (M : Nat) (w : World) (s : St)
    (mc : ∀ w, Sem.run Tryz.prog (method 267 T V "whitewash/auto.call") w = .ok (f, V') w) (ec : ∀ a b w, Sem.run Tryz.prog (callFunc f #[V', a, b]) w = .ok (.enter f #[V', a, b]) w)
    (hM : M ≤ w.heap.size) (hB : B < M) (hW : Ext W w)
    (HC : Calls Tryz.prog f #[V', .pointer (some ⟨B, 0, none⟩), ov oc ok ov'] ((w.alloc (ob oc ok ov')).alloc rb0) fun e w' => TE r e ∧ QB W M ((w.alloc (ob oc ok ov')).alloc rb0) w' B s) :
    Calls Tryz.prog 46 #[.iface T V, .pointer (some ⟨B, 0, none⟩), ov oc ok ov'] w fun e w' => e = .returned (rv r.1 r.2) ∧ QB W M w w' B s := by
  have hmf : ∀ (fn : Fn) (first cap : Array Value) (w : World), (Instr.makeFunc fn first cap).run Tryz.prog w = .ok (.func fn first cap) w := fun _ _ _ _ => rfl
  have X0 := Lib.hid ((Ext.new w (ob oc ok ov')).alloc rb0)
  obtain ⟨⟨a0, a1⟩, b0, b1⟩ := ans_new (ob oc ok ov') w
  have A0 := Lib.hid a0
  have A1 := Lib.hid a1
  have B0 := Lib.hid b0
  have B1 := Lib.hid b1
  have FAR : RowKit.Hid (∀ w1 x y, QB W M ((w.alloc (ob oc ok ov')).alloc rb0) w1 B s → QB W M w ((w1.setCell ⟨w.heap.size + 1, 0, none⟩ x).setCell ⟨w.heap.size + 1, 1, none⟩ y) B s) := Lib.hid fun w1 x y h => by
    obtain ⟨h1, a, v, t, h2, h3, h4⟩ := h
    have hs := hW.size
    have hN := h4 (w.heap.size + 1) (by omega) (by simp)
    exact ⟨((h1.from X0.out).setCell x (by omega) (.inr (by omega))).setCell y (by omega) (.inr (by omega)), a, v, t, five_far (five_far h2 (by omega)) (by omega), (h3.set hN 0 x).set hN 1 y, fun b hb hl => h4 b hb (by simp; omega)⟩
  obtain ⟨re, rv'⟩ := r
  have HS := Lib.hid HC
  have hMM := Lib.hid hM
  clear HC a0 a1 b0 b1 hM hB hW
  dsimp only [ov, ob, rb0, rv] at *
  go_enter_defers Tryz.func46, Tryz.ntmps46
  go_wp2
  refine HS.out.mono ?_
  rintro e w1 ⟨hT, hQ⟩
  have g0 := hQ.1.cell (by have := hMM.out; omega) A0.out
  have g1 := hQ.1.cell (by have := hMM.out; omega) A1.out
  have z0 := (hQ.1.frozen (by have := hMM.out; omega) A0.out).trans B0.out
  have z1 := (hQ.1.frozen (by have := hMM.out; omega) A1.out).trans B1.out
  have HQ := Lib.hid (FAR.out w1 · · hQ)
  clear hQ FAR HS A0 A1 B0 B1
  rcases hT with ⟨h0, rfl⟩ | ⟨h0, h1, rfl⟩
  · dsimp only at h0
    subst h0
    go_wp2
    refine leaves_cons (f := 67) (args := #[.pointer (some ⟨w.heap.size + 1, 0, none⟩)]) (by simp) (by simp [go_sem]) ?_
    refine (catch_idle ⟨w.heap.size + 1, 0, none⟩ _).mono ?_
    rintro e u' w'' ⟨rfl, rfl, rfl⟩
    simp [Leaves, settle, results, Tryz.results46, go_sem, g0, g1]
    exact HQ.out _ _
  · dsimp only at h1
    subst h1
    dsimp only
    refine leaves_cons (f := 67) (args := #[.pointer (some ⟨w.heap.size + 1, 0, none⟩)]) (by simp) (by simp [go_sem]) ?_
    refine (catch_no re (w.heap.size + 1) 0 0 _ g0 g1 z0 z1).mono ?_
    rintro e u' w'' ⟨rfl, rfl, rfl⟩
    simp [Leaves, settle, results, Tryz.results46, go_sem, g0, g1]
    exact HQ.out _ _

set_option maxHeartbeats 1000000 in
set_option maxRecDepth 100000 in
theorem answer_read (T : TypeId) (V V' : Value) (f B : Nat) (oc ok ov' : Int) (r : Rs) (w : World)
    (mc : ∀ w, Sem.run Tryz.prog (method 267 T V "whitewash/auto.call") w = .ok (f, V') w) (ec : ∀ a b w, Sem.run Tryz.prog (callFunc f #[V', a, b]) w = .ok (.enter f #[V', a, b]) w)
    (HC : Calls Tryz.prog f #[V', .pointer (some ⟨B, 0, none⟩), ov oc ok ov'] ((w.alloc (ob oc ok ov')).alloc rb0) fun e w' => TE r e ∧ Ext ((w.alloc (ob oc ok ov')).alloc rb0) w') :
    Calls Tryz.prog 46 #[.iface T V, .pointer (some ⟨B, 0, none⟩), ov oc ok ov'] w fun e w' => e = .returned (rv r.1 r.2) ∧ Ext w w' := by
  have hmf : ∀ (fn : Fn) (first cap : Array Value) (w : World), (Instr.makeFunc fn first cap).run Tryz.prog w = .ok (.func fn first cap) w := fun _ _ _ _ => rfl
  have X0 := Lib.hid ((Ext.new w (ob oc ok ov')).alloc rb0)
  obtain ⟨⟨a0, a1⟩, b0, b1⟩ := ans_new (ob oc ok ov') w
  have A0 := Lib.hid a0
  have A1 := Lib.hid a1
  have B0 := Lib.hid b0
  have B1 := Lib.hid b1
  have FAR : RowKit.Hid (∀ w1 x y, Ext ((w.alloc (ob oc ok ov')).alloc rb0) w1 → Ext w ((w1.setCell ⟨w.heap.size + 1, 0, none⟩ x).setCell ⟨w.heap.size + 1, 1, none⟩ y)) := Lib.hid fun w1 x y h => ((X0.out.trans h).setCell (Nat.le_succ _) x).setCell (Nat.le_succ _) y
  obtain ⟨re, rv'⟩ := r
  have HS := Lib.hid HC
  clear HC a0 a1 b0 b1
  dsimp only [ov, ob, rb0, rv] at *
  go_enter_defers Tryz.func46, Tryz.ntmps46
  go_wp2
  refine HS.out.mono ?_
  rintro e w1 ⟨hT, hQ⟩
  have g0 := hQ.cell A0.out
  have g1 := hQ.cell A1.out
  have z0 := (hQ.frozen A0.out).trans B0.out
  have z1 := (hQ.frozen A1.out).trans B1.out
  have HQ := Lib.hid (FAR.out w1 · · hQ)
  clear hQ FAR HS A0 A1 B0 B1
  rcases hT with ⟨h0, rfl⟩ | ⟨h0, h1, rfl⟩
  · dsimp only at h0
    subst h0
    go_wp2
    refine leaves_cons (f := 67) (args := #[.pointer (some ⟨w.heap.size + 1, 0, none⟩)]) (by simp) (by simp [go_sem]) ?_
    refine (catch_idle ⟨w.heap.size + 1, 0, none⟩ _).mono ?_
    rintro e u' w'' ⟨rfl, rfl, rfl⟩
    simp [Leaves, settle, results, Tryz.results46, go_sem, g0, g1]
    exact HQ.out _ _
  · dsimp only at h1
    subst h1
    dsimp only
    refine leaves_cons (f := 67) (args := #[.pointer (some ⟨w.heap.size + 1, 0, none⟩)]) (by simp) (by simp [go_sem]) ?_
    refine (catch_no re (w.heap.size + 1) 0 0 _ g0 g1 z0 z1).mono ?_
    rintro e u' w'' ⟨rfl, rfl, rfl⟩
    simp [Leaves, settle, results, Tryz.results46, go_sem, g0, g1]
    exact HQ.out _ _

end Go.Proofs.YtdipddnnckfnmaaGreat.Lan

/- LanReg:
  What a call does to a register, and tells. Conditions: the state lies in a box that may be written.
-/
namespace Go.Proofs.YtdipddnnckfnmaaGreat.Lan
open Go.RowKit (Below intOf)
open Go.Proofs.YtdipddnnckfnmaaGreat.Aut
open Go.Proofs.YtdipddnnckfnmaaGreat.Reg (cf bx fits_any)

/-- A store of a word into the box. -/
theorem PB.reg {W : World} {M : Nat} {w w1 : World} {B : Nat} {s : St} {a v t : Sl} (h : PB W M w B s a v t) (e : Ext w w1) (x : Int) (hx : U64 x) : QB W M w (w1.setCell ⟨B, 0, none⟩ (.int .u64 x)) B { s with reg := x } := by
  have h5 := h.five.ext e
  have hss := h.ss.ext e
  refine ⟨((Kp.refl h.e).ext e).setCell _ h.hB (.inl h.hM), a, v, t, ⟨set_same h5.1, set_five h5.2.1 (by decide), set_five h5.2.2.1 (by decide), set_five h5.2.2.2.1 (by decide), set_five h5.2.2.2.2 (by decide)⟩, ?_, fun b hb _ => h.off b hb⟩
  have := hss.set h.offB 0 (.int .u64 x)
  exact ⟨hx, this.2⟩

theorem op_new (o : Obj) (c k v : Int) (w : World) : ((w.alloc o).alloc (ob c k v)).cell? ⟨w.heap.size + 1, 0, none⟩ = some (.int .i64 c) ∧ ((w.alloc o).alloc (ob c k v)).cell? ⟨w.heap.size + 1, 1, none⟩ = some (.int .u64 k) ∧ ((w.alloc o).alloc (ob c k v)).cell? ⟨w.heap.size + 1, 2, none⟩ = some (.int .u64 v) := by
  have hs : (w.alloc o).heap.size = w.heap.size + 1 := by simp
  refine ⟨?_, ?_, ?_⟩ <;> (rw [← hs]; unfold World.cell?; rw [World.alloc_heap_new]; rfl)

set_option maxHeartbeats 2000000 in
set_option maxRecDepth 100000 in
theorem reg_call {W : World} {M : Nat} {w : World} {B : Nat} {s : St} {a v t : Sl} (h : PB W M w B s a v t) (o x y : Int) (hy : U64 y) :
    Calls Tryz.prog 93 #[kE, .pointer (some ⟨B, 0, none⟩), ov o x y] w fun e w' => TE (regS s ⟨o, x, y⟩).2 e ∧ QB W M w w' B (regS s ⟨o, x, y⟩).1 := by
  have X0 := (Ext.new w (.cells #[] 99)).alloc (ob o x y)
  obtain ⟨k2, k3, k4⟩ := op_new (.cells #[] 99) o x y w
  have hP := h.ext X0
  have g0 := hP.five.1
  have z0 := hP.fro 0
  have hru := h.ss.1
  have HC := Lib.hid (fun W => canon_any y W hy.1 hy.2)
  have HM := Lib.hid (fun W => max_any s.reg y W hru.1 hru.2 hy.1 hy.2)
  have HS := Lib.hid (fun W => sum_any s.reg y W)
  have HR : RowKit.Hid (∀ w1 z, Ext ((w.alloc (.cells #[] 99)).alloc (ob o x y)) w1 → U64 z → QB W M w (w1.setCell ⟨B, 0, none⟩ (.int .u64 z)) B { s with reg := z }) := Lib.hid fun w1 z e hz => h.reg (X0.trans e) z hz
  have HU : RowKit.Hid (U64 (canon y) ∧ U64 (maxOf s.reg y) ∧ U64 (sumOf s.reg y)) := Lib.hid ⟨⟨canon_lo y hy.1, canon_hi y hy.2⟩, ⟨max_lo _ _ hru.1 hy.1, max_hi _ _ hru.2 hy.2⟩, ⟨sum_lo _ _, sum_hi _ _⟩⟩
  have HQ := Lib.hid (h.read X0)
  have hs : ∀ c : Int, o ≠ c → (o == c) = false := fun c h => by simpa using h
  clear hy hru h hP X0
  dsimp only [ov, ob] at *
  by_cases h1 : o = 1
  · subst h1
    have e : regS s ⟨1, x, y⟩ = (s, (0, s.reg)) := by unfold regS; rw [if_pos rfl]
    rw [e]
    go_enter Tryz.func93, Tryz.ntmps93
    go_wp2_with (fail)
    go_ret
    exact ⟨te_ret _, HQ.out⟩
  by_cases h2 : o = 2
  · subst h2
    have e : regS s ⟨2, x, y⟩ = ({ s with reg := canon y }, (0, s.reg)) := by unfold regS; rw [if_neg (by simp), if_pos rfl]
    rw [e]
    go_enter Tryz.func93, Tryz.ntmps93
    go_wp2_with (first | (go_at_call 97; (with_reducible refine (HC.out _).mono ?_); rintro e w' ⟨rfl, rfl⟩))
    go_ret
    exact ⟨te_ret _, HR.out _ _ (Ext.refl _) HU.out.1⟩
  by_cases h3 : o = 3
  · subst h3
    have e : regS s ⟨3, x, y⟩ = ({ s with reg := maxOf s.reg y }, (0, maxOf s.reg y)) := by unfold regS; rw [if_neg (by simp), if_neg (by simp), if_pos rfl]
    rw [e]
    have y0 : RowKit.Hid (∀ z, _) := Lib.hid fun z => set_same (y := .int .u64 z) g0
    have y1 := y0.out (maxOf s.reg y)
    go_enter Tryz.func93, Tryz.ntmps93
    go_wp2_with (first | (go_at_call 98; (with_reducible refine (HM.out _).mono ?_); rintro e w' ⟨rfl, rfl⟩))
    go_ret
    exact ⟨te_ret _, HR.out _ _ (Ext.refl _) HU.out.2.1⟩
  by_cases h4 : o = 4
  · subst h4
    have e : regS s ⟨4, x, y⟩ = ({ s with reg := sumOf s.reg y }, (0, sumOf s.reg y)) := by unfold regS; rw [if_neg (by simp), if_neg (by simp), if_neg (by simp), if_pos rfl]
    rw [e]
    go_enter Tryz.func93, Tryz.ntmps93
    go_wp2_with (first | (go_at_call 99; (with_reducible refine (HS.out _).mono ?_); rintro e w' ⟨rfl, n, rfl⟩))
    go_ret
    exact ⟨te_ret _, HR.out _ _ (Ext.drewN (Ext.refl _) _) HU.out.2.2⟩
  have e : regS s ⟨o, x, y⟩ = (s, (10, 0)) := by unfold regS; rw [if_neg h1, if_neg h2, if_neg h3, if_neg h4]
  rw [e]
  have b1 := hs 1 h1
  have b2 := hs 2 h2
  have b3 := hs 3 h3
  have b4 := hs 4 h4
  clear h1 h2 h3 h4 hs
  go_enter Tryz.func93, Tryz.ntmps93
  go_wp2_with (fail)
  exact ⟨rfl, te_no (by decide), HQ.out⟩

end Go.Proofs.YtdipddnnckfnmaaGreat.Lan

