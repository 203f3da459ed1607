/-
  Parts of a proof, one behind the other: LanKey, LanLook, LanRight. Each says its own conditions.
-/
import Derived.Test.YtojdhnecafkibaaM05

/- LanKey:
  find, place, next and look of what has keys: the calls that change nothing. Conditions: the keys rise, and are written as themselves; the state lies where it is said to.
-/
namespace Go.Proofs.Ytojdhnecafkibaa.Lan
open Go.RowKit (Below intOf)
open Go.Proofs.Ytojdhnecafkibaa.Aut

set_option maxHeartbeats 1000000 in
set_option maxRecDepth 100000 in
theorem find_any {k : Int} {T : TypeId} {fk fr fl : Nat} (I : KI k T fk fr fl) (m x : Int) (B : Nat) (sl : Option Addr) (n c : Nat) (xs : List Int) (w : World) (hW : WS w sl n c xs) (hx : U64 x) (hr : RisingK k xs) (hB : w.cell? ⟨B, 1, none⟩ = some (.slice sl n c)) :
    Calls Try.prog 64 #[kd T m, .pointer (some ⟨B, 0, none⟩), .int .u64 x] w fun e w' => e = .returned (.tuple #[.int .i64 (posK k xs x : Nat), .bool (hitK k xs x)]) ∧ Ext w w' := by
  have hmf : ∀ (fn : Fn) (first cap : Array Value) (w : World), (Instr.makeFunc fn first cap).run Try.prog w = .ok (.func fn first cap) w := fun _ _ _ _ => rfl
  have hK : (w.alloc (kb T m)).cell? ⟨w.heap.size, 0, none⟩ = some (.iface T kE) := by unfold World.cell?; rw [World.alloc_heap_new]; rfl
  have HS := Lib.hid (search_any I w.heap.size sl n c xs x (w.alloc (kb T m)) (hW.ext (Ext.new w _)) hx hr hK)
  have hB1 : (w.alloc (kb T m)).cell? ⟨B, 1, none⟩ = some (.slice sl n c) := box_alloc hB
  clear hK I hx hr hW hB
  dsimp only [kd, kb] at *
  go_enter Try.func64, Try.ntmps64
  go_wp2_with (first | (go_at_call 72; (with_reducible refine HS.out.mono ?_); rintro e w' ⟨rfl, hE⟩))
  go_ret2
  exact ⟨rfl, (Ext.new w _).trans hE⟩

theorem kb_new (T : TypeId) (m : Int) (w : World) : (w.alloc (kb T m)).cell? ⟨w.heap.size, 0, none⟩ = some (.iface T kE) ∧ (w.alloc (kb T m)).cell? ⟨w.heap.size, 1, none⟩ = some (.int .i64 m) := by
  constructor <;> (unfold World.cell?; rw [World.alloc_heap_new]; rfl)

set_option maxHeartbeats 1000000 in
set_option maxRecDepth 100000 in
theorem place_may {k : Int} {T : TypeId} {fk fr fl : Nat} (I : KI k T fk fr fl) (m x : Int) (B : Nat) (sl : Option Addr) (n c : Nat) (xs : List Int) (w : World) (hW : WS w sl n c xs) (hx : U64 x) (hr : RisingK k xs) (hB : w.cell? ⟨B, 1, none⟩ = some (.slice sl n c)) (hm : mayK k x = true) (h : Bool) (hh : hitK k xs (meantK k x) = h) :
    Calls Try.prog 76 #[kd T m, .pointer (some ⟨B, 0, none⟩), .int .u64 x] w fun e w' => (if h then e = .returned (.int .i64 (posK k xs (meantK k x) : Nat)) else e = .panicked (noE 12)) ∧ Ext w w' := by
  obtain ⟨k0, k1⟩ := kb_new T m w
  have HK := Lib.hid (fun W => keyOf_yes I m x W hx hm)
  have HF : RowKit.Hid (∀ W, Ext w W → Calls Try.prog 64 #[kd T m, .pointer (some ⟨B, 0, none⟩), .int .u64 (meantK k x)] W fun e w' => e = .returned (.tuple #[.int .i64 (posK k xs (meantK k x) : Nat), .bool h]) ∧ Ext W w') :=
    Lib.hid fun W hE => hh ▸ find_any I m (meantK k x) B sl n c xs W (hW.ext hE) (meant_u hx) hr (hE.cell hB)
  generalize posK k xs (meantK k x) = P at *
  generalize meantK k x = X at *
  have X0 := Lib.hid (Ext.new w (kb T m))
  clear I hW hx hr hB hh hm
  dsimp only [kd, kb] at *
  cases h
  all_goals
    go_enter Try.func76, Try.ntmps76
    go_wp2_with (fail)
    go_region_held3 (fun w' => w'.cell? ⟨w.heap.size, 0, none⟩ = some (.iface T kE) ∧ w'.cell? ⟨w.heap.size, 1, none⟩ = some (.int .i64 m))
      (repeat' (first | (with_reducible assumption) | (with_reducible refine And.intro ?_ ?_) | (with_reducible refine box_alloc ?_) | (with_reducible refine box_drew ?_) | (with_reducible refine Ext.cell ‹_› ?_)))
      (first
        | (go_at_call 58; (with_reducible refine (HK.out _).mono ?_); rintro e w' ⟨rfl, rfl⟩)
        | (go_at_call 64; (with_reducible refine (HF.out _ (by repeat (first | exact X0.out | refine Ext.alloc ?_ _ | refine Ext.drew ?_))).mono ?_); rintro e w' ⟨rfl, hE⟩))
    all_goals
      have hE2 : Ext w w' := Ext.trans (by repeat (first | exact X0.out | refine Ext.alloc ?_ _ | refine Ext.drew ?_)) hE
      replace hE := Lib.hid hE2
      clear hE2
      go_wp2_with (first
        | (go_at_call 69; (with_reducible refine (refuse_no _ _).mono ?_); rintro e w' ⟨rfl, rfl⟩)
        | (go_at_call 69; (with_reducible refine (refuse_yes _ _).mono ?_); rintro e w' ⟨rfl, rfl⟩))
      first
        | (go_ret; exact ⟨rfl, hE.out⟩)
        | exact ⟨rfl, rfl, hE.out⟩

set_option maxHeartbeats 1000000 in
set_option maxRecDepth 100000 in
theorem place_bad {k : Int} {T : TypeId} {fk fr fl : Nat} (I : KI k T fk fr fl) (m x : Int) (B : Nat) (w : World) (hx : U64 x) (hm : mayK k x = false) :
    Calls Try.prog 76 #[kd T m, .pointer (some ⟨B, 0, none⟩), .int .u64 x] w fun e w' => e = .panicked (noE 10) ∧ Ext w w' := by
  have k01 := kb_new T m w
  have HK := Lib.hid (fun W => keyOf_no I m x W hx hm)
  have X0 := Lib.hid (Ext.new w (kb T m))
  clear I hx hm
  dsimp only [kd, kb] at *
  go_enter Try.func76, Try.ntmps76
  go_wp2_with (fail)
  refine wp_region_held_drew (S := fun w' => w'.cell? ⟨w.heap.size, 0, none⟩ = some (.iface T kE) ∧ w'.cell? ⟨w.heap.size, 1, none⟩ = some (.int .i64 m)) (by kernel_rfl) k01 (fun hHeld => ?_)
  refine wpAnyH_take (i := 0) (v := (.agg #[.iface T kE, .int .i64 m])) rfl (by kernel_rfl) (by kernel_rfl) (by kernel_rfl) (fun _ _ _ h => h) (Or.inl ⟨by rfl, ?_⟩) (by assumption) ?_
  · rintro w ⟨h1, h2⟩
    go_simp
  refine wpAnyH_take (i := 1) (v := .pointer (some ⟨B, 0, none⟩)) rfl (by kernel_rfl) (by kernel_rfl) (by kernel_rfl) (fun _ _ _ h => h) (Or.inl ⟨by rfl, ?_⟩) (by assumption) ?_
  · rintro w ⟨h1, h2⟩
    go_simp
  refine wpAnyH_take (i := 2) (v := (.agg #[.iface T kE, .int .i64 m])) rfl (by kernel_rfl) (by kernel_rfl) (by kernel_rfl) (fun _ _ _ h => h) (Or.inl ⟨by rfl, ?_⟩) (by assumption) ?_
  · rintro w ⟨h1, h2⟩
    go_simp
  refine wpAnyH_take (i := 3) (v := .int .u64 x) rfl (by kernel_rfl) (by kernel_rfl) (by kernel_rfl) (fun _ _ _ h => h) (Or.inl ⟨by rfl, ?_⟩) (by assumption) ?_
  · rintro w ⟨h1, h2⟩
    go_simp
  refine wpAnyH_ready (rs := [4]) (by kernel_rfl) (by simp) ?_
  refine AllReadyH.cons rfl (fun K hK => ?_) AllReadyH.nil
  go_simp
  refine (HK.out _).mono ?_
  rintro e w' ⟨rfl, rfl⟩
  exact ⟨rfl, rfl, by repeat (first | exact X0.out | refine Ext.alloc ?_ _ | refine Ext.drew ?_)⟩

/-- A call, as it is handed to a method. -/
abbrev ov (o k v : Int) : Value := .agg #[.int .i64 o, .int .u64 k, .int .u64 v]
abbrev ob (o k v : Int) : Obj := .cells #[.int .i64 o, .int .u64 k, .int .u64 v] 39
theorem two_new (T : TypeId) (m o k v : Int) (w : World) : (((w.alloc (kb T m)).alloc (ob o k v)).cell? ⟨w.heap.size, 0, none⟩ = some (.iface T kE) ∧ ((w.alloc (kb T m)).alloc (ob o k v)).cell? ⟨w.heap.size, 1, none⟩ = some (.int .i64 m)) ∧
    ((w.alloc (kb T m)).alloc (ob o k v)).cell? ⟨w.heap.size + 1, 0, none⟩ = some (.int .i64 o) ∧ ((w.alloc (kb T m)).alloc (ob o k v)).cell? ⟨w.heap.size + 1, 1, none⟩ = some (.int .u64 k) ∧ ((w.alloc (kb T m)).alloc (ob o k v)).cell? ⟨w.heap.size + 1, 2, none⟩ = some (.int .u64 v) := by
  obtain ⟨h0, h1⟩ := kb_new T m w
  have hs : (w.alloc (kb T m)).heap.size = w.heap.size + 1 := by simp
  refine ⟨⟨box_alloc h0, box_alloc h1⟩, ?_, ?_, ?_⟩ <;> (rw [← hs]; unfold World.cell?; rw [World.alloc_heap_new]; rfl)

set_option maxHeartbeats 1000000 in
set_option maxRecDepth 100000 in
theorem next_bad {k : Int} {T : TypeId} {fk fr fl : Nat} (I : KI k T fk fr fl) (m o x v : Int) (B : Nat) (w : World) (hx : U64 x) (hm : mayK k x = false) :
    Calls Try.prog 78 #[kd T m, .pointer (some ⟨B, 0, none⟩), ov o x v] w fun e w' => e = .panicked (noE 10) ∧ Ext w w' := by
  have k01 := two_new T m o x v w
  have HK := Lib.hid (fun W => keyOf_no I m x W hx hm)
  have X0 := Lib.hid ((Ext.new w (kb T m)).alloc (ob o x v))
  clear I hx hm
  dsimp only [kd, kb, ov, ob] at *
  go_enter Try.func78, Try.ntmps78
  go_wp2_with (fail)
  refine wp_region_held_drew (S := (fun w' => (w'.cell? ⟨w.heap.size, 0, none⟩ = some (.iface T kE) ∧ w'.cell? ⟨w.heap.size, 1, none⟩ = some (.int .i64 m)) ∧ w'.cell? ⟨w.heap.size + 1, 0, none⟩ = some (.int .i64 o) ∧ w'.cell? ⟨w.heap.size + 1, 1, none⟩ = some (.int .u64 x) ∧ w'.cell? ⟨w.heap.size + 1, 2, none⟩ = some (.int .u64 v))) (by kernel_rfl) k01 (fun hHeld => ?_)
  refine wpAnyH_take (i := 0) (v := (.agg #[.iface T kE, .int .i64 m])) rfl (by kernel_rfl) (by kernel_rfl) (by kernel_rfl) (fun _ _ _ h => h) (Or.inl ⟨by rfl, ?_⟩) (by assumption) ?_
  · rintro w ⟨⟨h1, h2⟩, h3, h4, h5⟩
    go_simp
  refine wpAnyH_take (i := 1) (v := .pointer (some ⟨B, 0, none⟩)) rfl (by kernel_rfl) (by kernel_rfl) (by kernel_rfl) (fun _ _ _ h => h) (Or.inl ⟨by rfl, ?_⟩) (by assumption) ?_
  · rintro w ⟨⟨h1, h2⟩, h3, h4, h5⟩
    go_simp
  refine wpAnyH_take (i := 2) (v := (.agg #[.iface T kE, .int .i64 m])) rfl (by kernel_rfl) (by kernel_rfl) (by kernel_rfl) (fun _ _ _ h => h) (Or.inl ⟨by rfl, ?_⟩) (by assumption) ?_
  · rintro w ⟨⟨h1, h2⟩, h3, h4, h5⟩
    go_simp
  refine wpAnyH_take (i := 3) (v := .pointer (some ⟨w.heap.size + 1, 1, none⟩)) rfl (by kernel_rfl) (by kernel_rfl) (by kernel_rfl) (fun _ _ _ h => h) (Or.inl ⟨by rfl, ?_⟩) (by assumption) ?_
  · rintro w ⟨⟨h1, h2⟩, h3, h4, h5⟩
    go_simp
  refine wpAnyH_take (i := 4) (v := .int .u64 x) rfl (by kernel_rfl) (by kernel_rfl) (by kernel_rfl) (fun _ _ _ h => h) (Or.inl ⟨by rfl, ?_⟩) (by assumption) ?_
  · rintro w ⟨⟨h1, h2⟩, h3, h4, h5⟩
    go_simp
  refine wpAnyH_ready (rs := [5]) (by kernel_rfl) (by simp) ?_
  refine AllReadyH.cons rfl (fun K hK => ?_) AllReadyH.nil
  go_simp
  refine (HK.out _).mono ?_
  rintro e w' ⟨rfl, rfl⟩
  exact ⟨rfl, rfl, by repeat (first | exact X0.out | refine Ext.alloc ?_ _ | refine Ext.drew ?_)⟩

/-- What a call tells: a word, or a refusal. -/
def TE (r : Rs) (e : Ending) : Prop := (r.1 = 0 ∧ e = .returned (.int .u64 r.2)) ∨ (r.1 ≠ 0 ∧ r.2 = 0 ∧ e = .panicked (noE r.1))
theorem te_ret (x : Int) : TE (0, x) (.returned (.int .u64 x)) := .inl ⟨rfl, rfl⟩
theorem te_no {x : Int} (h : x ≠ 0) : TE (x, 0) (.panicked (noE x)) := .inr ⟨h, rfl, rfl⟩

set_option maxHeartbeats 2000000 in
set_option maxRecDepth 100000 in
theorem next_may {k : Int} {T : TypeId} {fk fr fl : Nat} (I : KI k T fk fr fl) (m o x v : Int) (B : Nat) (sl : Option Addr) (n c : Nat) (xs : List Int) (w : World) (hW : WS w sl n c xs) (hx : U64 x) (hr : RisingK k xs) (hB : w.cell? ⟨B, 1, none⟩ = some (.slice sl n c)) (hm : mayK k x = true)
    (h : Bool) (hh : hitK k xs (meantK k x) = h) (P : Nat) (hP : posK k xs (meantK k x) = P) (J : Nat) (hJ : J = if h = true ∧ v ≠ 0 then P + 1 else P) (s : St) (hs : s.keys = xs) :
    Calls Try.prog 78 #[kd T m, .pointer (some ⟨B, 0, none⟩), ov o x v] w fun e w' => TE (nextS s J).2 e ∧ Ext w w' := by
  have k01 := two_new T m o x v w
  have HK := Lib.hid (fun W => keyOf_yes I m x W hx hm)
  have HF : RowKit.Hid (∀ W, Ext w W → Calls Try.prog 64 #[kd T m, .pointer (some ⟨B, 0, none⟩), .int .u64 (meantK k x)] W fun e w' => e = .returned (.tuple #[.int .i64 (P : Nat), .bool h]) ∧ Ext W w') :=
    Lib.hid fun W hE => hh ▸ hP ▸ find_any I m (meantK k x) B sl n c xs W (hW.ext hE) (meant_u hx) hr (hE.cell hB)
  have hPn : P ≤ n := by rw [← hP, ← hW.len]; exact pos_le _ _ _
  have hPh : h = true → P < n := fun e => by
    subst hP; rw [e] at hh; unfold hitK at hh
    cases g : xs[posK k xs (meantK k x)]? with
    | none => rw [g] at hh; cases hh
    | some y => rw [← hW.len]; exact (List.getElem?_eq_some_iff.1 g).1
  have hn := hW.le
  have X0 := Lib.hid ((Ext.new w (kb T m)).alloc (ob o x v))
  obtain ⟨⟨k1, k1b⟩, k2, k3, k4⟩ := k01
  have HB := Lib.hid hB
  have HW := Lib.hid hW
  have HS := Lib.hid hs
  clear I hW hx hr hB hh hm hs
  generalize meantK k x = X at *
  clear hP
  dsimp only [kd, kb, ov, ob] at *
  have key : RowKit.Hid (TE (nextS s J).2 (if J = n then .panicked (noE 12) else .returned (.int .u64 (xs.getD J 0)))) := Lib.hid (by
    have hl := HW.out.len
    by_cases e : J = n
    · rw [if_pos e]; unfold nextS; rw [HS.out, List.getElem?_eq_none (by omega)]; exact te_no (by decide)
    · have hlt : J < xs.length := by
        rw [hl]; rw [hJ] at e ⊢
        split at e
        · rename_i c1; rw [if_pos c1]; have := hPh c1.1; omega
        · rename_i c1; rw [if_neg c1]; omega
      rw [if_neg e]; unfold nextS; rw [HS.out, List.getElem?_eq_getElem hlt, List.getD_eq_getElem?_getD, List.getElem?_eq_getElem hlt]; exact te_ret _)
  have main : ∀ (W : World), Ext w W → RowKit.Hid (J < n → ∃ b o', sl = some ⟨b, o', none⟩ ∧ W.cell? ⟨b, o' + J, none⟩ = some (.int .u64 (xs.getD J 0))) := fun W hE => Lib.hid fun hJn => by
    obtain ⟨y, hy, _, b, o', eb, hyc⟩ := HW.out.get hJn
    exact ⟨b, o', eb, by rw [List.getD_eq_getElem?_getD, hy]; exact hE.cell hyc⟩
  by_cases hv : v = 0
  · have hv1 : (v != 0) = false := by simp [hv]
    simp only [hv, ne_eq, not_true_eq_false, and_false, if_false] at hJ
    cases h
    all_goals
      subst hJ
      clear hv
      go_enter Try.func78, Try.ntmps78
      go_wp2_with (fail)
      go_region_held3 (fun w' => (w'.cell? ⟨w.heap.size, 0, none⟩ = some (.iface T kE) ∧ w'.cell? ⟨w.heap.size, 1, none⟩ = some (.int .i64 m)) ∧ w'.cell? ⟨w.heap.size + 1, 0, none⟩ = some (.int .i64 o) ∧ w'.cell? ⟨w.heap.size + 1, 1, none⟩ = some (.int .u64 x) ∧ w'.cell? ⟨w.heap.size + 1, 2, none⟩ = some (.int .u64 v))
        (repeat' (first | (with_reducible assumption) | (with_reducible refine And.intro ?_ ?_) | (with_reducible refine box_alloc ?_) | (with_reducible refine box_drew ?_) | (with_reducible refine Ext.cell ‹_› ?_)))
        (first
          | (go_at_call 58; (with_reducible refine (HK.out _).mono ?_); rintro e w' ⟨rfl, rfl⟩)
          | (go_at_call 64; (with_reducible refine (HF.out _ (by repeat (first | exact X0.out | refine Ext.alloc ?_ _ | refine Ext.drew ?_))).mono ?_); rintro e w' ⟨rfl, hE⟩))
      have hE2 : Ext w w' := Ext.trans (by repeat (first | exact X0.out | refine Ext.alloc ?_ _ | refine Ext.drew ?_)) hE
      obtain ⟨_, _, _, q3⟩ := ‹(_ ∧ _) ∧ _ ∧ _ ∧ _›
      have q4 := hE2.cell HB.out
      have q5 := main w' hE2
      have hE3 := Lib.hid hE2
      clear hE hE2 main HK HF HB HW k1 k1b k2 k3 k4 X0
      by_cases hq : J = n
      · have hq2 : (J : Int) = (n : Int) := by omega
        have kk := key.out
        rw [if_pos hq] at kk
        replace kk := Lib.hid kk
        clear key q5
        go_wp2_with (first
          | (go_at_call 69; (with_reducible refine (refuse_yes _ _).mono ?_); rintro e w' ⟨rfl, rfl⟩))
        exact ⟨rfl, kk.out, hE3.out⟩
      · have hq2 : ¬ (J : Int) = (n : Int) := by omega
        have hq3 : decide ((J : Int) = (n : Int)) = false := decide_eq_false hq2
        have hq4 : ((J : Int) == (n : Int)) = false := by simpa using hq2
        have hq5 : decide (J = n) = false := decide_eq_false hq
        have kk := key.out
        rw [if_neg hq] at kk
        replace kk := Lib.hid kk
        clear key
        obtain ⟨b, o', rfl, q6⟩ := q5.out (by omega)
        clear q5
        generalize xs.getD J 0 = yy at *
        go_wp2_with (first
          | (go_at_call 69; (with_reducible refine (refuse_no _ _).mono ?_); rintro e w' ⟨rfl, rfl⟩))
        go_ret
        exact ⟨kk.out, hE3.out⟩
  · have hv1 : (v != 0) = true := by simp [hv]
    simp only [hv, ne_eq, not_false_eq_true, and_true] at hJ
    cases h
    · simp only [Bool.false_eq_true, if_false] at hJ
      subst hJ
      clear hv
      go_enter Try.func78, Try.ntmps78
      go_wp2_with (fail)
      go_region_held3 (fun w' => (w'.cell? ⟨w.heap.size, 0, none⟩ = some (.iface T kE) ∧ w'.cell? ⟨w.heap.size, 1, none⟩ = some (.int .i64 m)) ∧ w'.cell? ⟨w.heap.size + 1, 0, none⟩ = some (.int .i64 o) ∧ w'.cell? ⟨w.heap.size + 1, 1, none⟩ = some (.int .u64 x) ∧ w'.cell? ⟨w.heap.size + 1, 2, none⟩ = some (.int .u64 v))
        (repeat' (first | (with_reducible assumption) | (with_reducible refine And.intro ?_ ?_) | (with_reducible refine box_alloc ?_) | (with_reducible refine box_drew ?_) | (with_reducible refine Ext.cell ‹_› ?_)))
        (first
          | (go_at_call 58; (with_reducible refine (HK.out _).mono ?_); rintro e w' ⟨rfl, rfl⟩)
          | (go_at_call 64; (with_reducible refine (HF.out _ (by repeat (first | exact X0.out | refine Ext.alloc ?_ _ | refine Ext.drew ?_))).mono ?_); rintro e w' ⟨rfl, hE⟩))
      have hE2 : Ext w w' := Ext.trans (by repeat (first | exact X0.out | refine Ext.alloc ?_ _ | refine Ext.drew ?_)) hE
      obtain ⟨_, _, _, q3⟩ := ‹(_ ∧ _) ∧ _ ∧ _ ∧ _›
      have q4 := hE2.cell HB.out
      have q5 := main w' hE2
      have hE3 := Lib.hid hE2
      clear hE hE2 main HK HF HB HW k1 k1b k2 k3 k4 X0
      by_cases hq : J = n
      · have hq2 : (J : Int) = (n : Int) := by omega
        have kk := key.out
        rw [if_pos hq] at kk
        replace kk := Lib.hid kk
        clear key q5
        go_wp2_with (first
          | (go_at_call 69; (with_reducible refine (refuse_yes _ _).mono ?_); rintro e w' ⟨rfl, rfl⟩))
        exact ⟨rfl, kk.out, hE3.out⟩
      · have hq2 : ¬ (J : Int) = (n : Int) := by omega
        have hq3 : decide ((J : Int) = (n : Int)) = false := decide_eq_false hq2
        have hq4 : ((J : Int) == (n : Int)) = false := by simpa using hq2
        have hq5 : decide (J = n) = false := decide_eq_false hq
        have kk := key.out
        rw [if_neg hq] at kk
        replace kk := Lib.hid kk
        clear key
        obtain ⟨b, o', rfl, q6⟩ := q5.out (by omega)
        clear q5
        generalize xs.getD J 0 = yy at *
        go_wp2_with (first
          | (go_at_call 69; (with_reducible refine (refuse_no _ _).mono ?_); rintro e w' ⟨rfl, rfl⟩))
        go_ret
        exact ⟨kk.out, hE3.out⟩
    · simp only [if_true] at hJ
      have hPh2 : P < n := hPh rfl
      subst hJ
      clear hv
      go_enter Try.func78, Try.ntmps78
      go_wp2_with (fail)
      go_region_held3 (fun w' => (w'.cell? ⟨w.heap.size, 0, none⟩ = some (.iface T kE) ∧ w'.cell? ⟨w.heap.size, 1, none⟩ = some (.int .i64 m)) ∧ w'.cell? ⟨w.heap.size + 1, 0, none⟩ = some (.int .i64 o) ∧ w'.cell? ⟨w.heap.size + 1, 1, none⟩ = some (.int .u64 x) ∧ w'.cell? ⟨w.heap.size + 1, 2, none⟩ = some (.int .u64 v))
        (repeat' (first | (with_reducible assumption) | (with_reducible refine And.intro ?_ ?_) | (with_reducible refine box_alloc ?_) | (with_reducible refine box_drew ?_) | (with_reducible refine Ext.cell ‹_› ?_)))
        (first
          | (go_at_call 58; (with_reducible refine (HK.out _).mono ?_); rintro e w' ⟨rfl, rfl⟩)
          | (go_at_call 64; (with_reducible refine (HF.out _ (by repeat (first | exact X0.out | refine Ext.alloc ?_ _ | refine Ext.drew ?_))).mono ?_); rintro e w' ⟨rfl, hE⟩))
      have hE2 : Ext w w' := Ext.trans (by repeat (first | exact X0.out | refine Ext.alloc ?_ _ | refine Ext.drew ?_)) hE
      obtain ⟨_, _, _, q3⟩ := ‹(_ ∧ _) ∧ _ ∧ _ ∧ _›
      have q4 := hE2.cell HB.out
      have q5 := main w' hE2
      have hE3 := Lib.hid hE2
      clear hE hE2 main HK HF HB HW k1 k1b k2 k3 k4 X0
      by_cases hq : (P + 1) = n
      · have hq2 : ((P : Int) + 1) = (n : Int) := by omega
        have kk := key.out
        rw [if_pos hq] at kk
        replace kk := Lib.hid kk
        clear key q5
        go_wp2_with (first
          | (go_at_call 69; (with_reducible refine (refuse_yes _ _).mono ?_); rintro e w' ⟨rfl, rfl⟩))
        exact ⟨rfl, kk.out, hE3.out⟩
      · have hq2 : ¬ ((P : Int) + 1) = (n : Int) := by omega
        have hq3 : decide (((P : Int) + 1) = (n : Int)) = false := decide_eq_false hq2
        have hq4 : (((P : Int) + 1) == (n : Int)) = false := by simpa using hq2
        have hq5 : decide (P + 1 = n) = false := decide_eq_false hq
        have kk := key.out
        rw [if_neg hq] at kk
        replace kk := Lib.hid kk
        clear key
        obtain ⟨b, o', rfl, q6⟩ := q5.out (by omega)
        clear q5
        generalize xs.getD (P + 1) 0 = yy at *
        go_wp2_with (first
          | (go_at_call 69; (with_reducible refine (refuse_no _ _).mono ?_); rintro e w' ⟨rfl, rfl⟩))
        go_ret
        exact ⟨kk.out, hE3.out⟩

end Go.Proofs.Ytojdhnecafkibaa.Lan

/- LanLook:
  look, and the calls that change nothing of a set and of a table. Conditions: the keys rise, and are written as themselves; the state lies where it is said to.
-/
namespace Go.Proofs.Ytojdhnecafkibaa.Lan
open Go.RowKit (Below intOf)
open Go.Proofs.Ytojdhnecafkibaa.Aut

/-- What look tells. -/
def lookS (k : Int) (s : St) (c : Cl) : Rs :=
  if c.code = 8 then (if mayK k c.key = true then (nextS s (if hitK k s.keys (meantK k c.key) = true ∧ c.val ≠ 0 then posK k s.keys (meantK k c.key) + 1 else posK k s.keys (meantK k c.key))).2 else (10, 0))
  else if c.code = 9 then (0, (s.keys.length : Int)) else (10, 0)

abbrev kbt (ty T : TypeId) (m : Int) : Obj := .cells #[.iface T kE, .int .i64 m] ty
theorem two_newT (ty T : TypeId) (m o k v : Int) (w : World) : (((w.alloc (kbt ty T m)).alloc (ob o k v)).cell? ⟨w.heap.size, 0, none⟩ = some (.iface T kE) ∧ ((w.alloc (kbt ty T m)).alloc (ob o k v)).cell? ⟨w.heap.size, 1, none⟩ = some (.int .i64 m)) ∧
    ((w.alloc (kbt ty T m)).alloc (ob o k v)).cell? ⟨w.heap.size + 1, 0, none⟩ = some (.int .i64 o) ∧ ((w.alloc (kbt ty T m)).alloc (ob o k v)).cell? ⟨w.heap.size + 1, 1, none⟩ = some (.int .u64 k) ∧ ((w.alloc (kbt ty T m)).alloc (ob o k v)).cell? ⟨w.heap.size + 1, 2, none⟩ = some (.int .u64 v) := by
  have h0 : (w.alloc (kbt ty T m)).cell? ⟨w.heap.size, 0, none⟩ = some (.iface T kE) := by unfold World.cell?; rw [World.alloc_heap_new]; rfl
  have h1 : (w.alloc (kbt ty T m)).cell? ⟨w.heap.size, 1, none⟩ = some (.int .i64 m) := by unfold World.cell?; rw [World.alloc_heap_new]; rfl
  have hs : (w.alloc (kbt ty T m)).heap.size = w.heap.size + 1 := by simp
  refine ⟨⟨box_alloc h0, box_alloc h1⟩, ?_, ?_, ?_⟩ <;> (rw [← hs]; unfold World.cell?; rw [World.alloc_heap_new]; rfl)
theorem len_u64 {n : Nat} (h : n ≤ 1048576) : IntKind.u64.wrap (n : Int) = n := by simp only [IntKind.wrap_u64]; omega

/-- What is asked of an object with keys, and of the state that is handed to it. -/
structure Ky (k : Int) (T : TypeId) (fk fr fl : Nat) (B : Nat) (sl : Option Addr) (n c : Nat) (s : St) (x : Int) (w : World) : Prop where
  I : KI k T fk fr fl
  W : WS w sl n c s.keys
  x : U64 x
  r : RisingK k s.keys
  b : w.cell? ⟨B, 1, none⟩ = some (.slice sl n c)
theorem Ky.ext {k : Int} {T : TypeId} {fk fr fl B : Nat} {sl : Option Addr} {n c : Nat} {s : St} {x : Int} {w w' : World} (h : Ky k T fk fr fl B sl n c s x w) (e : Ext w w') : Ky k T fk fr fl B sl n c s x w' := ⟨h.I, h.W.ext e, h.x, h.r, e.cell h.b⟩
theorem Ky.next {k : Int} {T : TypeId} {fk fr fl B : Nat} {sl : Option Addr} {n c : Nat} {s : St} {x : Int} {w : World} (h : Ky k T fk fr fl B sl n c s x w) (m v : Int) :
    Calls Try.prog 78 #[kd T m, .pointer (some ⟨B, 0, none⟩), ov 8 x v] w fun e w' => TE (lookS k s ⟨8, x, v⟩) e ∧ Ext w w' := by
  unfold lookS
  rw [if_pos rfl]
  by_cases hm : mayK k x = true
  · rw [if_pos hm]
    exact next_may h.I m 8 x v B sl n c s.keys w h.W h.x h.r h.b hm _ rfl _ rfl _ rfl s rfl
  · rw [if_neg hm]
    exact (next_bad h.I m 8 x v B w h.x (by simpa using hm)).mono fun e w' hh => ⟨hh.1 ▸ te_no (by decide), hh.2⟩

set_option maxHeartbeats 1000000 in
set_option maxRecDepth 100000 in
theorem look_8 {k : Int} {T : TypeId} {fk fr fl B : Nat} {sl : Option Addr} {n c : Nat} {s : St} {x : Int} {w : World} (h : Ky k T fk fr fl B sl n c s x w) (m v : Int) :
    Calls Try.prog 68 #[kd T m, .pointer (some ⟨B, 0, none⟩), ov 8 x v] w fun e w' => TE (lookS k s ⟨8, x, v⟩) e ∧ Ext w w' := by
  have X0 := Lib.hid ((Ext.new w (kb T m)).alloc (ob 8 x v))
  have HN := Lib.hid ((h.ext X0.out).next m v)
  obtain ⟨⟨k1, k1b⟩, k2, k3, k4⟩ := two_newT 77 T m 8 x v w
  clear h
  dsimp only [kd, kb, kbt, ov, ob] at *
  go_enter Try.func68, Try.ntmps68
  go_wp2_with (first | (go_at_call 78; (with_reducible refine HN.out.mono ?_); rintro e w' ⟨hT, hE⟩; rcases hT with ⟨h0, rfl⟩ | ⟨h0, h1, rfl⟩))
  · go_ret
    exact ⟨.inl ⟨h0, rfl⟩, X0.out.trans hE⟩
  · exact ⟨rfl, .inr ⟨h0, h1, rfl⟩, X0.out.trans hE⟩
set_option maxHeartbeats 1000000 in
set_option maxRecDepth 100000 in
theorem look_9 {k : Int} {T : TypeId} {B : Nat} {sl : Option Addr} {n c : Nat} {s : St} {w : World} (hW : WS w sl n c s.keys) (hb : w.cell? ⟨B, 1, none⟩ = some (.slice sl n c)) (m x v : Int) :
    Calls Try.prog 68 #[kd T m, .pointer (some ⟨B, 0, none⟩), ov 9 x v] w fun e w' => TE (lookS k s ⟨9, x, v⟩) e ∧ Ext w w' := by
  have X0 := Lib.hid ((Ext.new w (kb T m)).alloc (ob 9 x v))
  have hb1 := X0.out.cell hb
  have hu := len_u64 hW.le
  have hl : RowKit.Hid (lookS k s ⟨9, x, v⟩ = (0, (n : Int))) := Lib.hid (by unfold lookS; rw [if_neg (by simp), if_pos rfl, hW.len])
  obtain ⟨⟨k1, k1b⟩, k2, k3, k4⟩ := two_newT 77 T m 9 x v w
  clear hW hb
  dsimp only [kd, kb, kbt, ov, ob] at *
  go_enter Try.func68, Try.ntmps68
  go_wp2_with (fail)
  go_ret
  refine ⟨?_, X0.out⟩
  rw [hl.out]
  first | exact te_ret _ | (rw [hu]; exact te_ret _)
set_option maxHeartbeats 1000000 in
set_option maxRecDepth 100000 in
theorem look_no {k : Int} {T : TypeId} {B : Nat} {s : St} {w : World} (m o x v : Int) (h8 : ¬ o = 8) (h9 : ¬ o = 9) :
    Calls Try.prog 68 #[kd T m, .pointer (some ⟨B, 0, none⟩), ov o x v] w fun e w' => TE (lookS k s ⟨o, x, v⟩) e ∧ Ext w w' := by
  have X0 := Lib.hid ((Ext.new w (kb T m)).alloc (ob o x v))
  have hl : RowKit.Hid (lookS k s ⟨o, x, v⟩ = (10, 0)) := Lib.hid (by unfold lookS; rw [if_neg h8, if_neg h9])
  have b8 : (o == 8) = false := by simpa using h8
  have b9 : (o == 9) = false := by simpa using h9
  obtain ⟨⟨k1, k1b⟩, k2, k3, k4⟩ := two_newT 77 T m o x v w
  dsimp only [kd, kb, kbt, ov, ob] at *
  go_enter Try.func68, Try.ntmps68
  go_wp2_with (fail)
  refine ⟨rfl, ?_, X0.out⟩
  rw [hl.out]
  exact te_no (by decide)
theorem look_any {k : Int} {T : TypeId} {fk fr fl B : Nat} {sl : Option Addr} {n c : Nat} {s : St} {x : Int} {w : World} (h : Ky k T fk fr fl B sl n c s x w) (m o v : Int) :
    Calls Try.prog 68 #[kd T m, .pointer (some ⟨B, 0, none⟩), ov o x v] w fun e w' => TE (lookS k s ⟨o, x, v⟩) e ∧ Ext w w' := by
  by_cases h8 : o = 8
  · subst h8; exact look_8 h m v
  · by_cases h9 : o = 9
    · subst h9; exact look_9 h.W h.b m x v
    · exact look_no m o x v h8 h9

set_option maxHeartbeats 1000000 in
set_option maxRecDepth 100000 in
theorem set_look {k : Int} {T : TypeId} {fk fr fl B : Nat} {sl : Option Addr} {n c : Nat} {s : St} {x : Int} {w : World} (h : Ky k T fk fr fl B sl n c s x w) (m o v : Int) (h5 : ¬ o = 5) (h6 : ¬ o = 6) (h7 : ¬ o = 7) :
    Calls Try.prog 60 #[kd T m, .pointer (some ⟨B, 0, none⟩), ov o x v] w fun e w' => TE (lookS k s ⟨o, x, v⟩) e ∧ Ext w w' := by
  have X0 := Lib.hid ((Ext.new w (kbt 79 T m)).alloc (ob o x v))
  have HN := Lib.hid (look_any (h.ext X0.out) m o v)
  have b5 : (o == 5) = false := by simpa using h5
  have b6 : (o == 6) = false := by simpa using h6
  have b7 : (o == 7) = false := by simpa using h7
  obtain ⟨⟨k1, k1b⟩, k2, k3, k4⟩ := two_newT 79 T m o x v w
  clear h h5 h6 h7
  dsimp only [kd, kb, kbt, ov, ob] at *
  go_enter Try.func60, Try.ntmps60
  go_wp2_with (first | (go_at_call 68; (with_reducible refine HN.out.mono ?_); rintro e w' ⟨hT, hE⟩; rcases hT with ⟨h0, rfl⟩ | ⟨h0, h1, rfl⟩))
  · go_ret
    exact ⟨.inl ⟨h0, rfl⟩, X0.out.trans hE⟩
  · exact ⟨rfl, .inr ⟨h0, h1, rfl⟩, X0.out.trans hE⟩
set_option maxHeartbeats 1000000 in
set_option maxRecDepth 100000 in
theorem table_look {k : Int} {T : TypeId} {fk fr fl B : Nat} {sl : Option Addr} {n c : Nat} {s : St} {x : Int} {w : World} (h : Ky k T fk fr fl B sl n c s x w) (m o v : Int) (h10 : ¬ o = 10) (h11 : ¬ o = 11) (h7 : ¬ o = 7) :
    Calls Try.prog 86 #[kd T m, .pointer (some ⟨B, 0, none⟩), ov o x v] w fun e w' => TE (lookS k s ⟨o, x, v⟩) e ∧ Ext w w' := by
  have X0 := Lib.hid ((Ext.new w (kbt 80 T m)).alloc (ob o x v))
  have HN := Lib.hid (look_any (h.ext X0.out) m o v)
  have b10 : (o == 10) = false := by simpa using h10
  have b11 : (o == 11) = false := by simpa using h11
  have b7 : (o == 7) = false := by simpa using h7
  obtain ⟨⟨k1, k1b⟩, k2, k3, k4⟩ := two_newT 80 T m o x v w
  clear h h10 h11 h7
  dsimp only [kd, kb, kbt, ov, ob] at *
  go_enter Try.func86, Try.ntmps86
  go_wp2_with (first | (go_at_call 68; (with_reducible refine HN.out.mono ?_); rintro e w' ⟨hT, hE⟩; rcases hT with ⟨h0, rfl⟩ | ⟨h0, h1, rfl⟩))
  · go_ret
    exact ⟨.inl ⟨h0, rfl⟩, X0.out.trans hE⟩
  · exact ⟨rfl, .inr ⟨h0, h1, rfl⟩, X0.out.trans hE⟩

set_option maxHeartbeats 1000000 in
set_option maxRecDepth 100000 in
theorem set_has {k : Int} {T : TypeId} {fk fr fl B : Nat} {sl : Option Addr} {n c : Nat} {s : St} {x : Int} {w : World} (h : Ky k T fk fr fl B sl n c s x w) (m v : Int) (hm : mayK k x = true) (h1 : Bool) (hh : hitK k s.keys (meantK k x) = h1) :
    Calls Try.prog 60 #[kd T m, .pointer (some ⟨B, 0, none⟩), ov 5 x v] w fun e w' => e = .returned (.int .u64 (bitZ h1)) ∧ Ext w w' := by
  have X0 := Lib.hid ((Ext.new w (kbt 79 T m)).alloc (ob 5 x v))
  have HK := Lib.hid (fun W => keyOf_yes h.I m x W h.x hm)
  have HF : RowKit.Hid (∀ W, Ext w W → Calls Try.prog 64 #[kd T m, .pointer (some ⟨B, 0, none⟩), .int .u64 (meantK k x)] W fun e w' => e = .returned (.tuple #[.int .i64 (posK k s.keys (meantK k x) : Nat), .bool h1]) ∧ Ext W w') :=
    Lib.hid fun W hE => hh ▸ find_any h.I m (meantK k x) B sl n c s.keys W (h.W.ext hE) (meant_u h.x) h.r (hE.cell h.b)
  generalize posK k s.keys (meantK k x) = P at *
  generalize meantK k x = X at *
  obtain ⟨⟨k1, k1b⟩, k2, k3, k4⟩ := two_newT 79 T m 5 x v w
  clear h hh hm
  dsimp only [kd, kb, kbt, ov, ob] at *
  go_enter Try.func60, Try.ntmps60
  go_wp2_with (fail)
  go_region_held3 (fun w' => (w'.cell? ⟨w.heap.size, 0, none⟩ = some (.iface T kE) ∧ w'.cell? ⟨w.heap.size, 1, none⟩ = some (.int .i64 m)) ∧ w'.cell? ⟨w.heap.size + 1, 0, none⟩ = some (.int .i64 5) ∧ w'.cell? ⟨w.heap.size + 1, 1, none⟩ = some (.int .u64 x) ∧ w'.cell? ⟨w.heap.size + 1, 2, none⟩ = some (.int .u64 v))
    (repeat' (first | (with_reducible assumption) | (with_reducible refine And.intro ?_ ?_) | (with_reducible refine box_alloc ?_) | (with_reducible refine box_drew ?_) | (with_reducible refine Ext.cell ‹_› ?_)))
    (first
      | (go_at_call 58; (with_reducible refine (HK.out _).mono ?_); rintro e w' ⟨rfl, rfl⟩)
      | (go_at_call 64; (with_reducible refine (HF.out _ (by repeat (first | exact X0.out | refine Ext.alloc ?_ _ | refine Ext.drew ?_))).mono ?_); rintro e w' ⟨rfl, hE⟩))
  have hE2 : Ext w w' := Ext.trans (by repeat (first | exact X0.out | refine Ext.alloc ?_ _ | refine Ext.drew ?_)) hE
  replace hE2 := Lib.hid hE2
  clear hE
  go_wp2_with (first | (go_at_call 65; (with_reducible refine (lbit_any _ _).mono ?_); rintro e w' ⟨rfl, rfl⟩))
  go_ret
  exact ⟨rfl, hE2.out⟩
set_option maxHeartbeats 1000000 in
set_option maxRecDepth 100000 in
theorem set_has_bad {k : Int} {T : TypeId} {fk fr fl : Nat} (I : KI k T fk fr fl) (m x v : Int) (B : Nat) (w : World) (hx : U64 x) (hm : mayK k x = false) :
    Calls Try.prog 60 #[kd T m, .pointer (some ⟨B, 0, none⟩), ov 5 x v] w fun e w' => e = .panicked (noE 10) ∧ Ext w w' := by
  have X0 := Lib.hid ((Ext.new w (kbt 79 T m)).alloc (ob 5 x v))
  have k01 := two_newT 79 T m 5 x v w
  have HK := Lib.hid (fun W => keyOf_no I m x W hx hm)
  have k02 := k01
  obtain ⟨⟨k1, k1b⟩, k2, k3, k4⟩ := k02
  clear I hx hm
  dsimp only [kd, kb, kbt, ov, ob] at *
  go_enter Try.func60, Try.ntmps60
  go_wp2_with (fail)
  refine wp_region_held_drew (S := fun w' => (w'.cell? ⟨w.heap.size, 0, none⟩ = some (.iface T kE) ∧ w'.cell? ⟨w.heap.size, 1, none⟩ = some (.int .i64 m)) ∧ w'.cell? ⟨w.heap.size + 1, 0, none⟩ = some (.int .i64 5) ∧ w'.cell? ⟨w.heap.size + 1, 1, none⟩ = some (.int .u64 x) ∧ w'.cell? ⟨w.heap.size + 1, 2, none⟩ = some (.int .u64 v)) (by kernel_rfl) k01 (fun hHeld => ?_)
  refine wpAnyH_take (i := 0) (v := .pointer (some ⟨w.heap.size, 0, none⟩)) rfl (by kernel_rfl) (by kernel_rfl) (by kernel_rfl) (fun _ _ _ h => h) (Or.inl ⟨by rfl, ?_⟩) (by assumption) ?_
  · rintro w ⟨⟨h1, h2⟩, h3, h4, h5⟩
    go_simp
  refine wpAnyH_take (i := 1) (v := (.agg #[.iface T kE, .int .i64 m])) rfl (by kernel_rfl) (by kernel_rfl) (by kernel_rfl) (fun _ _ _ h => h) (Or.inl ⟨by rfl, ?_⟩) (by assumption) ?_
  · rintro w ⟨⟨h1, h2⟩, h3, h4, h5⟩
    go_simp
  refine wpAnyH_take (i := 2) (v := .pointer (some ⟨B, 0, none⟩)) rfl (by kernel_rfl) (by kernel_rfl) (by kernel_rfl) (fun _ _ _ h => h) (Or.inl ⟨by rfl, ?_⟩) (by assumption) ?_
  · rintro w ⟨⟨h1, h2⟩, h3, h4, h5⟩
    go_simp
  refine wpAnyH_take (i := 3) (v := .pointer (some ⟨w.heap.size, 0, none⟩)) rfl (by kernel_rfl) (by kernel_rfl) (by kernel_rfl) (fun _ _ _ h => h) (Or.inl ⟨by rfl, ?_⟩) (by assumption) ?_
  · rintro w ⟨⟨h1, h2⟩, h3, h4, h5⟩
    go_simp
  refine wpAnyH_take (i := 4) (v := (.agg #[.iface T kE, .int .i64 m])) rfl (by kernel_rfl) (by kernel_rfl) (by kernel_rfl) (fun _ _ _ h => h) (Or.inl ⟨by rfl, ?_⟩) (by assumption) ?_
  · rintro w ⟨⟨h1, h2⟩, h3, h4, h5⟩
    go_simp
  refine wpAnyH_take (i := 5) (v := .pointer (some ⟨w.heap.size + 1, 1, none⟩)) rfl (by kernel_rfl) (by kernel_rfl) (by kernel_rfl) (fun _ _ _ h => h) (Or.inl ⟨by rfl, ?_⟩) (by assumption) ?_
  · rintro w ⟨⟨h1, h2⟩, h3, h4, h5⟩
    go_simp
  refine wpAnyH_take (i := 6) (v := .int .u64 x) rfl (by kernel_rfl) (by kernel_rfl) (by kernel_rfl) (fun _ _ _ h => h) (Or.inl ⟨by rfl, ?_⟩) (by assumption) ?_
  · rintro w ⟨⟨h1, h2⟩, h3, h4, h5⟩
    go_simp
  refine wpAnyH_ready (rs := [7]) (by kernel_rfl) (by simp) ?_
  refine AllReadyH.cons rfl (fun K hK => ?_) AllReadyH.nil
  go_simp
  refine (HK.out _).mono ?_
  rintro e w' ⟨rfl, rfl⟩
  exact ⟨rfl, rfl, by repeat (first | exact X0.out | refine Ext.alloc ?_ _ | refine Ext.drew ?_)⟩

set_option maxHeartbeats 1000000 in
set_option maxRecDepth 100000 in
theorem table_get {k : Int} {T : TypeId} {fk fr fl B : Nat} {sl : Option Addr} {n c : Nat} {s : St} {x : Int} {w : World} (h : Ky k T fk fr fl B sl n c s x w) (m v : Int) (hm : mayK k x = true) (hh : hitK k s.keys (meantK k x) = true)
    (vb vo vn vc : Nat) (y : Int) (P : Nat) (hP : posK k s.keys (meantK k x) = P) (hv : w.cell? ⟨B, 2, none⟩ = some (.slice (some ⟨vb, vo, none⟩) vn vc)) (hy : w.cell? ⟨vb, vo + P, none⟩ = some (.int .u64 y)) (hPn : P < vn) :
    Calls Try.prog 86 #[kd T m, .pointer (some ⟨B, 0, none⟩), ov 10 x v] w fun e w' => e = .returned (.int .u64 y) ∧ Ext w w' := by
  have X0 := Lib.hid ((Ext.new w (kbt 80 T m)).alloc (ob 10 x v))
  have HF : RowKit.Hid (∀ W, Ext w W → Calls Try.prog 76 #[kd T m, .pointer (some ⟨B, 0, none⟩), .int .u64 x] W fun e w' => e = .returned (.int .i64 (P : Nat)) ∧ Ext W w') :=
    Lib.hid fun W hE => (place_may h.I m x B sl n c s.keys W (h.W.ext hE) h.x h.r (hE.cell h.b) hm true hh).mono fun e w' q => ⟨by have := q.1; rw [if_pos rfl, hP] at this; exact this, q.2⟩
  obtain ⟨⟨k1, k1b⟩, k2, k3, k4⟩ := two_newT 80 T m 10 x v w
  have hv1 := X0.out.cell hv
  have hy1 := X0.out.cell hy
  have hP2 : (P : Int) < vn := by omega
  clear h hh hm hP hv hy
  dsimp only [kd, kb, kbt, ov, ob] at *
  go_enter Try.func86, Try.ntmps86
  go_wp2_with (fail)
  go_region_held3 (fun w' => (w'.cell? ⟨w.heap.size, 0, none⟩ = some (.iface T kE) ∧ w'.cell? ⟨w.heap.size, 1, none⟩ = some (.int .i64 m)) ∧ w'.cell? ⟨w.heap.size + 1, 0, none⟩ = some (.int .i64 10) ∧ w'.cell? ⟨w.heap.size + 1, 1, none⟩ = some (.int .u64 x) ∧ w'.cell? ⟨w.heap.size + 1, 2, none⟩ = some (.int .u64 v) ∧ w'.cell? ⟨B, 2, none⟩ = some (.slice (some ⟨vb, vo, none⟩) vn vc) ∧ w'.cell? ⟨vb, vo + P, none⟩ = some (.int .u64 y))
    (repeat' (first | (with_reducible assumption) | (with_reducible refine And.intro ?_ ?_) | (with_reducible refine box_alloc ?_) | (with_reducible refine box_drew ?_) | (with_reducible refine Ext.cell ‹_› ?_)))
    (first
      | (go_at_call 76; (with_reducible refine (HF.out _ (by repeat (first | exact X0.out | refine Ext.alloc ?_ _ | refine Ext.drew ?_))).mono ?_); rintro e w' ⟨rfl, hE⟩))
  have hE2 : Ext w w' := Ext.trans (by repeat (first | exact X0.out | refine Ext.alloc ?_ _ | refine Ext.drew ?_)) hE
  replace hE2 := Lib.hid hE2
  clear hE
  go_wp2_with (fail)
  go_ret
  exact ⟨rfl, hE2.out⟩
set_option maxHeartbeats 1000000 in
set_option maxRecDepth 100000 in
theorem table_get_no {k : Int} {T : TypeId} {fk fr fl B : Nat} {sl : Option Addr} {n c : Nat} {s : St} {x : Int} {w : World} (h : Ky k T fk fr fl B sl n c s x w) (m v : Int) (va : Option Addr) (vn vc : Nat) (hv : w.cell? ⟨B, 2, none⟩ = some (.slice va vn vc))
    (E : Int) (hE : (mayK k x = true ∧ hitK k s.keys (meantK k x) = false ∧ E = 12) ∨ (mayK k x = false ∧ E = 10)) :
    Calls Try.prog 86 #[kd T m, .pointer (some ⟨B, 0, none⟩), ov 10 x v] w fun e w' => e = .panicked (noE E) ∧ Ext w w' := by
  have X0 := Lib.hid ((Ext.new w (kbt 80 T m)).alloc (ob 10 x v))
  have HF : RowKit.Hid (∀ W, Ext w W → Calls Try.prog 76 #[kd T m, .pointer (some ⟨B, 0, none⟩), .int .u64 x] W fun e w' => e = .panicked (noE E) ∧ Ext W w') :=
    Lib.hid fun W hX => by
      rcases hE with ⟨h1, h2, rfl⟩ | ⟨h1, rfl⟩
      · exact (place_may h.I m x B sl n c s.keys W (h.W.ext hX) h.x h.r (hX.cell h.b) h1 false h2).mono fun e w' q => ⟨by have := q.1; rw [if_neg (by simp)] at this; exact this, q.2⟩
      · exact place_bad h.I m x B W h.x h1
  have k01 := two_newT 80 T m 10 x v w
  have hv1 := X0.out.cell hv
  have k03 := And.intro k01.1 (And.intro k01.2.1 (And.intro k01.2.2.1 (And.intro k01.2.2.2 hv1)))
  obtain ⟨⟨k1, k1b⟩, k2, k3, k4⟩ := k01
  clear h hE hv
  dsimp only [kd, kb, kbt, ov, ob] at *
  go_enter Try.func86, Try.ntmps86
  go_wp2_with (fail)
  refine wp_region_held_drew (S := fun w' => (w'.cell? ⟨w.heap.size, 0, none⟩ = some (.iface T kE) ∧ w'.cell? ⟨w.heap.size, 1, none⟩ = some (.int .i64 m)) ∧ w'.cell? ⟨w.heap.size + 1, 0, none⟩ = some (.int .i64 10) ∧ w'.cell? ⟨w.heap.size + 1, 1, none⟩ = some (.int .u64 x) ∧ w'.cell? ⟨w.heap.size + 1, 2, none⟩ = some (.int .u64 v) ∧ w'.cell? ⟨B, 2, none⟩ = some (.slice va vn vc)) (by kernel_rfl) k03 (fun hHeld => ?_)
  refine wpAnyH_take (i := 0) (v := .pointer (some ⟨B, 0, none⟩)) rfl (by kernel_rfl) (by kernel_rfl) (by kernel_rfl) (fun _ _ _ h => h) (Or.inl ⟨by rfl, ?_⟩) (by assumption) ?_
  · rintro w ⟨⟨h1, h2⟩, h3, h4, h5, h6⟩
    go_simp
  refine wpAnyH_take (i := 1) (v := .pointer (some ⟨B, 0, none⟩)) rfl (by kernel_rfl) (by kernel_rfl) (by kernel_rfl) (fun _ _ _ h => h) (Or.inl ⟨by rfl, ?_⟩) (by assumption) ?_
  · rintro w ⟨⟨h1, h2⟩, h3, h4, h5, h6⟩
    go_simp
  refine wpAnyH_take (i := 2) (v := .pointer (some ⟨B, 2, none⟩)) rfl (by kernel_rfl) (by kernel_rfl) (by kernel_rfl) (fun _ _ _ h => h) (Or.inl ⟨by rfl, ?_⟩) (by assumption) ?_
  · rintro w ⟨⟨h1, h2⟩, h3, h4, h5, h6⟩
    go_simp
  refine wpAnyH_take (i := 3) (v := .slice va vn vc) rfl (by kernel_rfl) (by kernel_rfl) (by kernel_rfl) (fun _ _ _ h => h) (Or.inl ⟨by rfl, ?_⟩) (by assumption) ?_
  · rintro w ⟨⟨h1, h2⟩, h3, h4, h5, h6⟩
    go_simp
  refine wpAnyH_take (i := 4) (v := .pointer (some ⟨w.heap.size, 0, none⟩)) rfl (by kernel_rfl) (by kernel_rfl) (by kernel_rfl) (fun _ _ _ h => h) (Or.inl ⟨by rfl, ?_⟩) (by assumption) ?_
  · rintro w ⟨⟨h1, h2⟩, h3, h4, h5, h6⟩
    go_simp
  refine wpAnyH_take (i := 5) (v := (.agg #[.iface T kE, .int .i64 m])) rfl (by kernel_rfl) (by kernel_rfl) (by kernel_rfl) (fun _ _ _ h => h) (Or.inl ⟨by rfl, ?_⟩) (by assumption) ?_
  · rintro w ⟨⟨h1, h2⟩, h3, h4, h5, h6⟩
    go_simp
  refine wpAnyH_take (i := 6) (v := .pointer (some ⟨B, 0, none⟩)) rfl (by kernel_rfl) (by kernel_rfl) (by kernel_rfl) (fun _ _ _ h => h) (Or.inl ⟨by rfl, ?_⟩) (by assumption) ?_
  · rintro w ⟨⟨h1, h2⟩, h3, h4, h5, h6⟩
    go_simp
  refine wpAnyH_take (i := 7) (v := .pointer (some ⟨w.heap.size + 1, 1, none⟩)) rfl (by kernel_rfl) (by kernel_rfl) (by kernel_rfl) (fun _ _ _ h => h) (Or.inl ⟨by rfl, ?_⟩) (by assumption) ?_
  · rintro w ⟨⟨h1, h2⟩, h3, h4, h5, h6⟩
    go_simp
  refine wpAnyH_take (i := 8) (v := .int .u64 x) rfl (by kernel_rfl) (by kernel_rfl) (by kernel_rfl) (fun _ _ _ h => h) (Or.inl ⟨by rfl, ?_⟩) (by assumption) ?_
  · rintro w ⟨⟨h1, h2⟩, h3, h4, h5, h6⟩
    go_simp
  refine wpAnyH_ready (rs := [9]) (by kernel_rfl) (by simp) ?_
  refine AllReadyH.cons rfl (fun K hK => ?_) AllReadyH.nil
  go_simp
  refine (HF.out _ (by repeat (first | exact X0.out | refine Ext.alloc ?_ _ | refine Ext.drew ?_))).mono ?_
  rintro e w' ⟨rfl, hE⟩
  exact ⟨rfl, rfl, Ext.trans (by repeat (first | exact X0.out | refine Ext.alloc ?_ _ | refine Ext.drew ?_)) hE⟩

end Go.Proofs.Ytojdhnecafkibaa.Lan

/- LanRight:
  isBare, and whether keys may stand in a state. Conditions: the slices' words are words.
-/
namespace Go.Proofs.Ytojdhnecafkibaa.Lan
open Go.RowKit (Below intOf)
open Go.Proofs.Ytojdhnecafkibaa.Aut

def bareB (r : Int) (a v t : Sl) (cl : Bool) : Bool := decide (r = 0) && (decide (a.n = 0) && (decide (v.n = 0) && (decide (t.n = 0) && !cl)))
set_option maxHeartbeats 1000000 in
set_option maxRecDepth 100000 in
theorem bare_any (r : Int) (a v t : Sl) (cl : Bool) (w : World) : Calls Try.prog 50 #[sv r a v t cl] w fun e w' => e = .returned (.bool (bareB r a v t cl)) ∧ w' = w.alloc (sb r a v t cl) := by
  obtain ⟨ka, kn, kc⟩ := a
  obtain ⟨va, vn, vc⟩ := v
  obtain ⟨ta, tn, tc⟩ := t
  dsimp only [sv, sb] at *
  generalize hR : bareB r ⟨ka, kn, kc⟩ ⟨va, vn, vc⟩ ⟨ta, tn, tc⟩ cl = R
  have HR := Lib.hid hR
  clear hR
  by_cases h1 : r = 0
  · have b1 : (r == 0) = true := by simpa using h1
    by_cases h2 : kn = 0
    · have b2 : ((kn : Int) == 0) = true := by simp [h2]
      by_cases h3 : vn = 0
      · have b3 : ((vn : Int) == 0) = true := by simp [h3]
        by_cases h4 : tn = 0
        · have b4 : ((tn : Int) == 0) = true := by simp [h4]
          have hq : R = !cl := by rw [← HR.out]; simp [bareB, h1, h2, h3, h4]
          subst hq
          clear h1 h2 h3 h4 HR
          go_enter Try.func50, Try.ntmps50
          go_wp2_with (fail)
          go_ret
          exact ⟨rfl, rfl⟩
        · have b4 : ((tn : Int) == 0) = false := by simp; omega
          have hq : R = false := by rw [← HR.out]; simp [bareB, h4]
          subst hq
          clear h1 h2 h3 h4 HR
          go_enter Try.func50, Try.ntmps50
          go_wp2_with (fail)
          go_ret
          exact ⟨rfl, rfl⟩
      · have b3 : ((vn : Int) == 0) = false := by simp; omega
        have hq : R = false := by rw [← HR.out]; simp [bareB, h3]
        subst hq
        clear h1 h2 h3 HR
        go_enter Try.func50, Try.ntmps50
        go_wp2_with (fail)
        go_ret
        exact ⟨rfl, rfl⟩
    · have b2 : ((kn : Int) == 0) = false := by simp; omega
      have hq : R = false := by rw [← HR.out]; simp [bareB, h2]
      subst hq
      clear h1 h2 HR
      go_enter Try.func50, Try.ntmps50
      go_wp2_with (fail)
      go_ret
      exact ⟨rfl, rfl⟩
  · have b1 : (r == 0) = false := by simpa using h1
    have hq : R = false := by rw [← HR.out]; simp [bareB, h1]
    subst hq
    clear h1 HR
    go_enter Try.func50, Try.ntmps50
    go_wp2_with (fail)
    go_ret
    exact ⟨rfl, rfl⟩

/-- The keys ahead of a place are as they may be. -/
def OkTo (k : Int) (xs : List Int) (i : Nat) : Prop := ∀ (j : Nat) y, j < i → xs[j]? = some y → (meantK k y = y ∧ mayK k y = true) ∧ ∀ (l : Nat) z, j = l + 1 → xs[l]? = some z → ordK k z < ordK k y
def Good (k : Int) (xs : List Int) : Prop := (∀ x ∈ xs, meantK k x = x ∧ mayK k x = true) ∧ RisingK k xs
instance (k : Int) (xs : List Int) : Decidable (Good k xs) := by unfold Good; infer_instance
theorem good_of {k : Int} {xs : List Int} (h : OkTo k xs xs.length) : Good k xs := by
  refine ⟨fun x hx => ?_, ?_⟩
  · obtain ⟨j, hj⟩ := List.mem_iff_getElem?.1 hx
    exact (h j x (List.getElem?_eq_some_iff.1 hj).1 hj).1
  · have step : ∀ (d i : Nat) x y, xs[i]? = some x → xs[i + d + 1]? = some y → ordK k x < ordK k y := by
      intro d
      induction d with
      | zero => intro i x y hx hy; exact (h (i + 1) y (List.getElem?_eq_some_iff.1 hy).1 hy).2 i x rfl hx
      | succ d ih =>
        intro i x y hx hy
        have hl := (List.getElem?_eq_some_iff.1 hy).1
        have hz : xs[i + d + 1]? = some (xs[i + d + 1]'(by omega)) := List.getElem?_eq_getElem (by omega)
        exact Int.lt_trans (ih i x _ hx hz) ((h _ y hl hy).2 _ _ (by omega) hz)
    refine rising_iff.2 fun i j x y hij hx hy => ?_
    obtain ⟨d, rfl⟩ : ∃ d, j = i + d + 1 := ⟨j - i - 1, by omega⟩
    exact step d i x y hx hy
theorem ok_of {k : Int} {xs : List Int} (h : Good k xs) (i : Nat) : OkTo k xs i := fun j y _ hy => ⟨h.1 y (List.mem_of_getElem? hy), fun l z e hz => h.2.lt hz hy (by omega)⟩

set_option maxHeartbeats 4000000 in
set_option maxRecDepth 100000 in
theorem are_any {k : Int} {T : TypeId} {fk fr fl : Nat} (I : KI k T fk fr fl) (m : Int) (sl : Option Addr) (n c : Nat) (xs : List Int) (w : World) (hW : WS w sl n c xs) :
    Calls Try.prog 70 #[kd T m, .slice sl n c] w fun e w' => e = .returned (.bool (decide ((n : Int) ≤ m ∧ Good k xs))) ∧ Ext w w' := by
  obtain ⟨k0, k1⟩ := kb_new T m w
  have hn := hW.le
  have X0 := Lib.hid (Ext.new w (kb T m))
  have h1 := I.km
  have h2 := I.ek
  have h3 := I.rm
  have h4 := I.er
  have HK : RowKit.Hid (∀ x w, U64 x → _) := Lib.hid I.ck
  have HR : RowKit.Hid (∀ x w, U64 x → _) := Lib.hid I.cr
  have HW := Lib.hid hW
  clear I hW
  dsimp only [kd, kb] at *
  generalize hD : decide ((n : Int) ≤ m ∧ Good k xs) = D
  have HD := Lib.hid hD
  clear hD
  by_cases hA : (n : Int) ≤ m
  · have hA' : ¬ m < (n : Int) := by omega
    go_enter Try.func70, Try.ntmps70
    go_wp2_with (fail)
    go_loopg [16] n (fun kx s16 wr => ∃ i : Nat, s16 = .int .i64 i ∧ i ≤ n ∧ n - i ≤ kx ∧ RowKit.Hid (Ext (w.alloc (.cells #[.iface T kE, .int .i64 m] 77)) wr) ∧ RowKit.Hid (OkTo k xs i))
    case atStart => exact ⟨0, rfl, Nat.zero_le _, by omega, Lib.hid (Ext.refl _), Lib.hid fun j y hj => absurd hj (Nat.not_lt_zero _)⟩
    case round =>
      obtain ⟨i, rfl, hi, hg, S1, J⟩ := hrel
      have c0 := S1.out.cell k0
      have c1 := S1.out.cell k1
      have X1 : RowKit.Hid (Ext w _) := Lib.hid (X0.out.trans S1.out)
      clear k0 k1 X0
      by_cases hlt : i < n
      · have hlt2 : (i : Int) < n := by omega
        obtain ⟨y, hy, hyu, b, o, rfl, hyc⟩ := HW.out.get hlt
        have cm := X1.out.cell hyc
        have HKy := Lib.hid (fun w => HK.out y w hyu)
        have HRy := Lib.hid (fun w => HR.out y w hyu)
        have HY := Lib.hid hy
        clear hyc hyu hy HK
        by_cases hmay : mayK k y = true
        · rw [hmay] at HKy
          by_cases hme : meantK k y = y
          · rw [hme] at HKy
            have hme2 : (y != y) = false := by simp
            rcases Nat.eq_zero_or_pos i with hz | hz
            · subst hz
              clear HR HRy
              simp only [Nat.add_zero] at cm
              go_wp2_with (first | (go_at_fn fk; with_reducible refine (HKy.out _).mono ?_; rintro e w' ⟨rfl, rfl⟩))
              go_quiet (fail)
              go_wp2_with (fail)
              go_roundg (n - 1)
              case measure => omega
              case rel =>
                refine ⟨1, rfl, by omega, by omega, Lib.hid ?_, Lib.hid ?_⟩
                · repeat (first | exact S1.out | refine Ext.alloc ?_ _ | refine Ext.drew ?_ | refine Ext.drewN ?_ _)
                · intro j z hj hz
                  obtain rfl : j = 0 := by omega
                  rw [HY.out] at hz; cases hz
                  exact ⟨⟨hme, hmay⟩, fun l z e => by omega⟩
            · obtain ⟨j, rfl⟩ : ∃ j, i = j + 1 := ⟨i - 1, by omega⟩
              obtain ⟨z, hz1, hzu, b', o', eb, hzc⟩ := HW.out.get (k := j) (by omega)
              cases eb
              have cz := X1.out.cell hzc
              have HRz := Lib.hid (fun w => HR.out z w hzu)
              have HZ := Lib.hid hz1
              have hj1 : (j : Int) < n := by omega
              have hj2 : ((j + 1 : Nat) : Int) - 1 = j := by omega
              have hj3 : RowKit.wrap64 (j : Int) = j := by simp only [RowKit.wrap64]; omega
              have hj4 : IntKind.i64.wrap (j : Int) = j := by simp only [IntKind.wrap_i64]; omega
              have hj5 : ((j : Int) + 1) - 1 = j := by omega
              clear hzc hzu hz1 HR hz
              by_cases ho : ordK k z < ordK k y
              · have ho1 := Lib.hid ho
                have ho3 : decide (ordK k y ≤ ordK k z) = false := decide_eq_false (by omega)
                clear ho
                generalize hoz : ordK k z = oz at *
                generalize hoy : ordK k y = oy at *
                have hoz2 := Lib.hid hoz
                have hoy2 := Lib.hid hoy
                clear hoz hoy
                go_wp2_with (first | (go_at_fn fk; with_reducible refine (HKy.out _).mono ?_; rintro e w' ⟨rfl, rfl⟩))
                go_region_held3 (fun w' => w'.cell? ⟨w.heap.size, 0, none⟩ = some (.iface T kE) ∧ w'.cell? ⟨b, o + j, none⟩ = some (.int .u64 z))
                  (repeat' (first | (with_reducible assumption) | (with_reducible refine And.intro ?_ ?_) | (with_reducible refine box_alloc ?_) | (with_reducible refine box_drew ?_)))
                  (first
                    | (go_at_fn fr; (with_reducible refine (HRz.out _).mono ?_); rintro e w' ⟨rfl, rfl⟩)
                    | (go_at_fn fr; (with_reducible refine (HRy.out _).mono ?_); rintro e w' ⟨rfl, rfl⟩))
                all_goals
                  go_wp2_with (fail)
                  go_roundg (n - (j + 1 + 1))
                  case measure => omega
                  case rel =>
                    refine ⟨j + 1 + 1, by first | rfl | (simp; done) | (congr 1; omega), by omega, by omega, Lib.hid ?_, Lib.hid ?_⟩
                    · repeat (first | exact S1.out | refine Ext.alloc ?_ _ | refine Ext.drew ?_ | refine Ext.drewN ?_ _)
                    · intro q z' hq hz'
                      by_cases e : q < j + 1
                      · exact J.out q z' e hz'
                      · obtain rfl : q = j + 1 := by omega
                        rw [HY.out] at hz'; cases hz'
                        refine ⟨⟨hme, hmay⟩, fun l z2 e2 hz2 => ?_⟩
                        obtain rfl : l = j := by omega
                        rw [HZ.out] at hz2; cases hz2
                        rw [hoz2.out, hoy2.out]; exact ho1.out
              · have hq : RowKit.Hid (D = false) := Lib.hid (HD.out.symm.trans <| decide_eq_false fun h => ho (h.2.2.lt HZ.out HY.out (by omega)))
                have ho3 : decide (ordK k y ≤ ordK k z) = true := decide_eq_true (by omega)
                clear ho
                generalize ordK k z = oz at *
                generalize ordK k y = oy at *
                go_wp2_with (first | (go_at_fn fk; with_reducible refine (HKy.out _).mono ?_; rintro e w' ⟨rfl, rfl⟩))
                go_region_held3 (fun w' => w'.cell? ⟨w.heap.size, 0, none⟩ = some (.iface T kE) ∧ w'.cell? ⟨b, o + j, none⟩ = some (.int .u64 z))
                  (repeat' (first | (with_reducible assumption) | (with_reducible refine And.intro ?_ ?_) | (with_reducible refine box_alloc ?_) | (with_reducible refine box_drew ?_)))
                  (first
                    | (go_at_fn fr; (with_reducible refine (HRz.out _).mono ?_); rintro e w' ⟨rfl, rfl⟩)
                    | (go_at_fn fr; (with_reducible refine (HRy.out _).mono ?_); rintro e w' ⟨rfl, rfl⟩))
                all_goals
                  go_wp2_with (fail)
                  go_ret
                  refine ⟨ret_bool hq.out.symm, ?_⟩
                  repeat (first | exact X1.out | refine Ext.alloc ?_ _ | refine Ext.drew ?_ | refine Ext.drewN ?_ _)
          · have hq : RowKit.Hid (D = false) := Lib.hid (HD.out.symm.trans <| decide_eq_false fun h => hme (h.2.1 y (List.mem_of_getElem? HY.out)).1)
            have hme2 : (meantK k y != y) = true := by simpa using hme
            clear hme HR HRy
            generalize meantK k y = my at *
            go_wp2_with (first | (go_at_fn fk; with_reducible refine (HKy.out _).mono ?_; rintro e w' ⟨rfl, rfl⟩))
            go_quiet (fail)
            go_wp2_with (fail)
            go_ret
            refine ⟨ret_bool hq.out.symm, ?_⟩
            repeat (first | exact X1.out | refine Ext.alloc ?_ _ | refine Ext.drew ?_ | refine Ext.drewN ?_ _)
        · have hq : RowKit.Hid (D = false) := Lib.hid (HD.out.symm.trans <| decide_eq_false fun h => hmay (h.2.1 y (List.mem_of_getElem? HY.out)).2)
          have hm2 : mayK k y = false := by simpa using hmay
          rw [hm2] at HKy
          clear hmay hm2 HR HRy
          generalize meantK k y = my at *
          go_wp2_with (first | (go_at_fn fk; with_reducible refine (HKy.out _).mono ?_; rintro e w' ⟨rfl, rfl⟩))
          go_quiet (fail)
          go_wp2_with (fail)
          go_ret
          refine ⟨ret_bool hq.out.symm, ?_⟩
          repeat (first | exact X1.out | refine Ext.alloc ?_ _ | refine Ext.drew ?_ | refine Ext.drewN ?_ _)
      · obtain rfl : i = n := by omega
        have hq : RowKit.Hid (D = true) := Lib.hid (HD.out.symm.trans <| decide_eq_true ⟨hA, good_of (by rw [HW.out.len]; exact J.out)⟩)
        have hlt2 : ¬ (i : Int) < i := by omega
        go_wp2_with (fail)
        go_ret
        refine ⟨ret_bool hq.out.symm, ?_⟩
        repeat (first | exact X1.out | refine Ext.alloc ?_ _ | refine Ext.drew ?_ | refine Ext.drewN ?_ _)
  · have hA' : m < (n : Int) := by omega
    have hq : D = false := HD.out.symm.trans (decide_eq_false (fun h => hA h.1))
    rw [hq]
    clear hA
    go_enter Try.func70, Try.ntmps70
    go_wp2_with (fail)
    go_ret
    exact ⟨rfl, X0.out⟩

end Go.Proofs.Ytojdhnecafkibaa.Lan

