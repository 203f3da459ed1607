/-
  Parts of a proof, one behind the other: Par, LawState. Each says its own conditions.
-/
import Derived.Test.YtdipddnnckfnmaaGreatM14
import Derived.Deep.RegionHeld3
import Derived.Test.YtdipddnnckfnmaaGreatProg
import Derived.Deep.CutRange
import Derived.Deep.CutBlock

/- Par:
  A region whose operations may come up in any order, where some make memory and some are calls: one obligation for each of them, and one for what follows. No condition: a law of walks.
-/
namespace Go.Proofs.YtdipddnnckfnmaaGreat.Par

section
variable {P : Program} {ops : Array Oper} {Q : Exit → Act → World → Prop} {md : Region.Mode} {S : World → Prop}

def dstOf (ops : Array Oper) (i : Nat) : Option Tmp := (ops[i]?).bind (·.dst)
/-- The values of those that are done, in their places. -/
def putAll (ds : Nat → Option Tmp) : List Nat → (Nat → Option Value) → Act → Act
  | [], _, a => a
  | i :: is, o, a => putAll ds is o (match o i with | some v => a.put (ds i) v | none => a)
def markAll : List Nat → (Nat → Bool) → Array Bool → Array Bool
  | [], _, l => l
  | i :: is, o, l => markAll is o (if o i then l.setIfInBounds i true else l)
def upd {α : Type} (f : Nat → α) (i : Nat) (x : α) : Nat → α := fun j => if j = i then x else f j

theorem putAll_nil {ds : Nat → Option Tmp} {o : Nat → Option Value} {a : Act} : putAll ds [] o a = a := rfl
theorem putAll_some {ds : Nat → Option Tmp} {vs : Nat → Value} {i : Nat} {is : List Nat} {a : Act} : putAll ds (i :: is) (fun j => some (vs j)) a = putAll ds is (fun j => some (vs j)) (a.put (ds i) (vs i)) := rfl
theorem putAll_put {ds : Nat → Option Tmp} {x : Option Tmp} {v : Value} {o : Nat → Option Value} : ∀ {is : List Nat} {a : Act}, (∀ j ∈ is, ∀ d, x = some d → ds j ≠ some d) → putAll ds is o (a.put x v) = (putAll ds is o a).put x v
  | [], _, _ => rfl
  | i :: is, a, h => by
    unfold putAll
    cases hi : o i with
    | none => exact putAll_put (fun j hj => h j (by simp [hj]))
    | some u =>
      simp only
      rw [Act.put_comm a v u (fun d hd => h i (by simp) d hd)]
      exact putAll_put (fun j hj => h j (by simp [hj]))
theorem putAll_congr {ds : Nat → Option Tmp} {o o' : Nat → Option Value} : ∀ {is : List Nat} {a : Act}, (∀ j ∈ is, o j = o' j) → putAll ds is o a = putAll ds is o' a
  | [], _, _ => rfl
  | i :: is, a, h => by
    unfold putAll
    rw [h i (by simp)]
    exact putAll_congr (fun j hj => h j (by simp [hj]))
theorem putAll_upd {ds : Nat → Option Tmp} {o : Nat → Option Value} {i : Nat} {v : Value} : ∀ {is : List Nat} {a : Act}, is.Nodup → (∀ j ∈ is, j ≠ i → ∀ d, ds i = some d → ds j ≠ some d) → i ∈ is → o i = none → putAll ds is (upd o i (some v)) a = (putAll ds is o a).put (ds i) v
  | [], _, _, _, h, _ => by cases h
  | j :: is, a, hn, hd, hi, ho => by
    have hn2 := List.nodup_cons.1 hn
    unfold putAll
    by_cases e : j = i
    · subst e
      rw [ho]
      simp only [upd, if_pos]
      rw [← putAll_put (fun k hk => hd k (by simp [hk]) (fun e => hn2.1 (e ▸ hk)))]
      exact putAll_congr (fun k hk => if_neg (fun (e : k = j) => hn2.1 (e ▸ hk)))
    · have hi' : i ∈ is := by
        rcases List.mem_cons.1 hi with e2 | h
        · exact absurd e2.symm e
        · exact h
      rw [show upd o i (some v) j = o j from if_neg e]
      exact putAll_upd hn2.2 (fun k hk => hd k (by simp [hk])) hi' ho
theorem putAll_size {ds : Nat → Option Tmp} {o : Nat → Option Value} : ∀ {is : List Nat} {a : Act}, (putAll ds is o a).tmps.size = a.tmps.size
  | [], _ => rfl
  | i :: is, a => by
    unfold putAll
    rw [putAll_size]
    cases o i with
    | none => rfl
    | some v => cases hd : ds i <;> simp [Act.put]
theorem putAll_no {ds : Nat → Option Tmp} {o : Nat → Option Value} {t : Tmp} : ∀ {is : List Nat} {a : Act}, (∀ j ∈ is, o j ≠ none → ds j ≠ some t) → (putAll ds is o a).tmps[t]? = a.tmps[t]?
  | [], _, _ => rfl
  | i :: is, a, h => by
    unfold putAll
    rw [putAll_no (fun j hj => h j (by simp [hj]))]
    cases ho : o i with
    | none => rfl
    | some v =>
      have := h i (by simp) (by rw [ho]; simp)
      cases hd : ds i with
      | none => rfl
      | some d =>
        have hne : d ≠ t := fun e => this (by rw [hd, e])
        simp [Act.put, Array.getElem?_setIfInBounds_ne hne]
theorem putAll_yes {ds : Nat → Option Tmp} {o : Nat → Option Value} {t : Tmp} {i : Nat} {v : Value} {is : List Nat} {a : Act} (hn : is.Nodup) (hd : ∀ j ∈ is, j ≠ i → ∀ d, ds i = some d → ds j ≠ some d) (hi : i ∈ is) (ht : ds i = some t) (ho : o i = some v) : (putAll ds is o a).tmps[t]? = if t < a.tmps.size then some v else none := by
  have e : o = upd (upd o i none) i (some v) := by
    funext j; unfold upd
    by_cases c : j = i
    · rw [if_pos c, c, ho]
    · rw [if_neg c, if_neg c]
  rw [e, putAll_upd hn hd hi (by simp [upd]), ht]
  simp only [Act.put]
  rw [Array.getElem?_setIfInBounds, if_pos rfl, putAll_size]

theorem markAll_set {x : Nat} {o : Nat → Bool} : ∀ {is : List Nat} {l : Array Bool}, x ∉ is → markAll is o (l.setIfInBounds x true) = (markAll is o l).setIfInBounds x true
  | [], _, _ => rfl
  | i :: is, l, h => by
    unfold markAll
    have h1 : x ≠ i := fun e => h (by simp [e])
    have h2 : x ∉ is := fun e => h (by simp [e])
    cases o i with
    | false => exact markAll_set h2
    | true =>
      simp only [if_true]
      rw [Array.setIfInBounds_comm _ _ h1]
      exact markAll_set h2
theorem markAll_congr {o o' : Nat → Bool} : ∀ {is : List Nat} {l : Array Bool}, (∀ j ∈ is, o j = o' j) → markAll is o l = markAll is o' l
  | [], _, _ => rfl
  | i :: is, l, h => by
    unfold markAll
    rw [h i (by simp)]
    exact markAll_congr (fun j hj => h j (by simp [hj]))
theorem markAll_upd {o : Nat → Bool} {i : Nat} : ∀ {is : List Nat} {l : Array Bool}, is.Nodup → i ∈ is → o i = false → markAll is (upd o i true) l = (markAll is o l).setIfInBounds i true
  | [], _, _, h, _ => by cases h
  | j :: is, l, hn, hi, ho => by
    have hn2 := List.nodup_cons.1 hn
    unfold markAll
    by_cases e : j = i
    · subst e
      rw [ho]
      simp only [upd, if_true, Bool.false_eq_true, if_false]
      rw [← markAll_set hn2.1]
      exact markAll_congr (fun k hk => if_neg (fun (e : k = j) => hn2.1 (e ▸ hk)))
    · have hi' : i ∈ is := by
        rcases List.mem_cons.1 hi with e2 | h
        · exact absurd e2.symm e
        · exact h
      rw [show upd o i true j = o j from if_neg e]
      exact markAll_upd hn2.2 hi' ho

/-- Two states in which an operation sees the same. -/
def Agree (ts : List Tmp) (a b : Act) : Prop := (a.tmps.size = b.tmps.size ∧ a.defers = b.defers) ∧ ∀ t ∈ ts, a.tmps[t]? = b.tmps[t]?
theorem putAll_defers {ds : Nat → Option Tmp} {o : Nat → Option Value} : ∀ {is : List Nat} {a : Act}, (putAll ds is o a).defers = a.defers
  | [], _ => rfl
  | i :: is, a => by
    unfold putAll
    rw [putAll_defers]
    cases o i with
    | none => rfl
    | some v => cases hd : ds i <;> simp [Act.put]
theorem Agree.exec {o : Oper} {a b : Act} (h : Agree (o.looksAt ops) a b) (hs : ∀ cs c, o.op ≠ .select cs c) : execOp b.eval o = execOp a.eval o :=
  execOp_congr o hs fun x hx => by
    cases x with
    | tmp t =>
      have := h.2 t (List.mem_append_left _ (List.mem_filterMap.2 ⟨.tmp t, by simpa using hx, rfl⟩))
      simp only [Act.eval, Array.getD_eq_getD_getElem?]
      rw [this]
    | _ => rfl
theorem Agree.wants {o : Oper} {a b : Act} (h : Agree (o.looksAt ops) a b) : Region.wanted o (yielded ops b.tmps) = Region.wanted o (yielded ops a.tmps) := by
  unfold Region.wanted
  cases hg : o.guard with
  | none => rfl
  | some gw =>
    obtain ⟨g, want⟩ := gw
    have hy : yielded ops b.tmps g = yielded ops a.tmps g := by
      unfold yielded
      cases ht : (ops[g]?).bind (·.dst) with
      | none => rfl
      | some t =>
        have := h.2 t (by simp [Oper.looksAt, hg, ht])
        simp only [Option.bind_some]
        rw [this]
    simp only [hy]

theorem put_inj {a : Act} {d : Tmp} {u v : Value} (hd : d < a.tmps.size) (h : a.put (some d) u = a.put (some d) v) : u = v := by
  have h1 : (a.put (some d) u).tmps[d]? = (a.put (some d) v).tmps[d]? := by rw [h]
  simp [Act.put, hd] at h1
  exact h1
theorem put_same {base a : Act} {x : Option Tmp} {u : Value} {T : Value → World → Prop} {w : World} (hd : ∀ d, x = some d → d < base.tmps.size) (h : ∃ v, base.put x u = base.put x v ∧ T v w) : ∃ v, a.put x u = a.put x v ∧ T v w := by
  obtain ⟨v, e, ht⟩ := h
  cases x with
  | none => exact ⟨v, rfl, ht⟩
  | some d =>
    have := put_inj (hd d rfl) e
    subst this
    exact ⟨u, rfl, ht⟩
/-- An operation does the same in a state in which it sees the same. -/
theorem wpOp_base {i : Nat} {oi : Oper} {base a : Act} {T : Value → World → Prop} {w : World} (hoi : ops[i]? = some oi) (hA : Agree (oi.looksAt ops) base a) (hs : ∀ cs c, oi.op ≠ .select cs c)
    (hd : ∀ d, oi.dst = some d → d < base.tmps.size) (hQ : ∀ c (x y : Array Value) (l : List Deferred) w, Q (.panic c) ⟨x, l⟩ w → Q (.panic c) ⟨y, l⟩ w)
    (h : wpOp P ops Q i (fun a' w' => ∃ v, a' = base.put oi.dst v ∧ T v w') base w) : wpOp P ops Q i (fun a' w' => ∃ v, a' = a.put oi.dst v ∧ T v w') a w := by
  have hQ2 : ∀ c w, Q (.panic c) base w → Q (.panic c) a w := fun c w h => by
    have hdf := hA.1.2
    obtain ⟨x, l⟩ := base
    obtain ⟨y, l2⟩ := a
    simp only at hdf
    subst hdf
    exact hQ c x y l w h
  unfold wpOp at *
  simp only [hoi] at *
  rw [hA.wants]
  split
  · rename_i hw
    simp only [hw, if_true] at h
    rcases h with h | ⟨hasks, hlets⟩
    case inr => exact .inr ⟨by unfold Oper.asks at *; rw [hA.exec hs]; exact hasks, hlets⟩
    refine .inl ?_
    unfold Oper.wp at *
    rw [hA.exec hs]
    generalize (execOp base.eval oi).run P w = r at *
    cases r with
    | ok n w' =>
      cases n <;> simp only [Oper.upon] at h ⊢
      case value u => exact put_same hd h
      case skip => exact put_same hd h
      case defer d =>
        obtain ⟨v, e, _⟩ := h
        exfalso
        have h1 := congrArg (fun x : Act => x.defers.length) e
        have h2 : ∀ (x : Act) (y : Option Tmp) (z : Value), (x.put y z).defers = x.defers := fun x y z => by cases y <;> rfl
        simp only [h2, List.length_cons] at h1
        omega
      case enter f args =>
        refine Calls.mono h fun e w'' he => ?_
        cases e with
        | returned u => exact put_same hd he
        | panicked c => exact hQ2 _ _ he
        | outgrown => exact he
      case row row args => exact Rows.mono h fun u w'' he => put_same hd he
    | halt x w' =>
      cases x <;> simp only [Oper.upon] at h ⊢
      case panic u => exact hQ2 _ _ h
  · rename_i hw
    simp only [hw] at h
    exact put_same hd h

/-- What a region's text has to say of the operations that are taken together. -/
def still (ops : Array Oper) (is : List Nat) (deps : Nat → List Nat) (ds : Nat → Option Tmp) (size : Nat) : Bool :=
  decide is.Nodup && is.all fun i => match ops[i]? with
    | none => false
    | some oi => (match oi.op with | .select .. => false | _ => true) && oi.dst == ds i && (oi.dst.all fun d => decide (d < size)) && decide (deps i).Nodup && ((deps i).all fun j => is.contains j) &&
      is.all fun j => j == i || ((match ds j with | some d => ds i != some d | none => true) && ((deps i).contains j || match ds j with | some d => !(oi.looksAt ops).contains d | none => true))
/-- Whatever order is picked, it is those alone that come up, each behind those that it waits for; one of 'pu' that may come up is taken first. -/
def only (md : Region.Mode) (ops : Array Oper) (is pu : List Nat) (deps : Nat → List Nat) : Nat → List Nat → Array Bool → Bool
  | 0, done, _ => is.all fun i => done.contains i
  | n + 1, done, l =>
    match pu.find? (fun i => (Region.ready md ops l).contains i) with
    | some i => is.contains i && !done.contains i && ((deps i).all fun j => done.contains j) && Region.free md ops l i && only md ops is pu deps n (i :: done) (l.setIfInBounds i true)
    | none => !(Region.ready md ops l).isEmpty && (Region.ready md ops l).all fun i => is.contains i && !pu.contains i && !done.contains i && ((deps i).all fun j => done.contains j) && only md ops is pu deps n (i :: done) (l.setIfInBounds i true)

theorem still_spec {is : List Nat} {deps : Nat → List Nat} {ds : Nat → Option Tmp} {size : Nat} (h : still ops is deps ds size = true) :
    is.Nodup ∧ ∀ i ∈ is, ∃ oi, ops[i]? = some oi ∧ (∀ cs c, oi.op ≠ .select cs c) ∧ oi.dst = ds i ∧ (∀ d, oi.dst = some d → d < size) ∧ (deps i).Nodup ∧ (∀ j ∈ deps i, j ∈ is) ∧
      ∀ j ∈ is, j ≠ i → (∀ d, ds j = some d → ds i ≠ some d) ∧ (j ∈ deps i ∨ ∀ d, ds j = some d → d ∉ oi.looksAt ops) := by
  unfold still at h
  rw [Bool.and_eq_true] at h
  refine ⟨of_decide_eq_true h.1, fun i hi => ?_⟩
  have h1 := List.all_eq_true.1 h.2 i hi
  cases ho : ops[i]? with
  | none => rw [ho] at h1; cases h1
  | some oi =>
    rw [ho] at h1
    simp only [Bool.and_eq_true] at h1
    obtain ⟨⟨⟨⟨⟨a1, a2⟩, a3⟩, a4⟩, a5⟩, a6⟩ := h1
    refine ⟨oi, rfl, fun cs c e => ?_, by simpa using a2, fun d hd => ?_, of_decide_eq_true a4, fun j hj => ?_, fun j hj hne => ?_⟩
    · rw [e] at a1; cases a1
    · rw [hd] at a3; simpa using a3
    · have := List.all_eq_true.1 a5 j hj; simpa using this
    · have := List.all_eq_true.1 a6 j hj
      simp only [Bool.or_eq_true, beq_iff_eq, hne, false_or, Bool.and_eq_true] at this
      refine ⟨fun d hd e => ?_, ?_⟩
      · have h2 := this.1; rw [hd] at h2; simp [e] at h2
      · rcases this.2 with h2 | h2
        · exact .inl (by simpa using h2)
        · exact .inr (fun d hd => by rw [hd] at h2; simpa using h2)

/-- The step is handed over behind a '∀ K'. -/
theorem step_of {i : Nat} {o : Oper} {K : Act → World → Prop} {a : Act} {w : World} (ho : ops[i]? = some o)
    (h : ∀ K' : Act → World → Prop, Shut (∀ a w, K a w → K' a w) → if Region.wanted o (yielded ops a.tmps) = true then Oper.wp P o a w K' Q else K' (a.put o.dst undef) w) : wpOp P ops Q i K a w :=
  wpOp_step ho h

/-- THE LAW: each operation's obligation is said in a state in which those that it waits for are done, in any world in which their facts hold. -/
theorem wpAnyH_par (is pu : List Nat) (deps : Nat → List Nat) (ds : Nat → Option Tmp) (F : Nat → (Nat → Value) → World → Prop) (X : Nat → Nat → (Nat → Value) → Prop) (R : World → World → Prop) {fuel N : Nat} {listed0 : Array Bool} {a0 : Act} {w0 : World} (hN : N = fuel + is.length)
    (hst : still ops is deps ds a0.tmps.size = true) (hns : Region.noSelect ops = true) (hchk : only md ops is pu deps is.length [] listed0 = true)
    (hQ : ∀ c (x y : Array Value) (l : List Deferred) w, Q (.panic c) ⟨x, l⟩ w → Q (.panic c) ⟨y, l⟩ w)
    (hr : ∀ w, R w w) (ht : ∀ u v w, R u v → R v w → R u w)
    (hloc : ∀ i vs vs' w, (∀ j, j = i ∨ j ∈ deps i → vs j = vs' j) → F i vs w → F i vs' w)
    (hstab : ∀ i vs w w', R w w' → F i vs w → F i vs w') (hX : ∀ i j vs vs', vs i = vs' i → vs j = vs' j → X i j vs → X i j vs') (hS : S w0)
    (pures : ∀ i ∈ pu, ∃ oi, ops[i]? = some oi ∧ ∀ (done : List Nat) vs w, i ∉ done → S w → R w0 w → (∀ j ∈ deps i, j ∈ done) → (∀ j ∈ done, F j vs w) → ∃ v, YieldsIf P ops S oi v (putAll ds (deps i) (fun j => some (vs j)) a0) ∧ F i (upd vs i v) w ∧ ∀ j ∈ done, X i j (upd vs i v))
    (steps : ∀ i ∈ is, i ∉ pu → ∀ (done : List Nat) vs w, i ∉ done → S w → R w0 w → (∀ j ∈ deps i, j ∈ done) → (∀ j ∈ done, F j vs w) → wpOp P ops Q i (fun a' w' => ∃ v, a' = (putAll ds (deps i) (fun j => some (vs j)) a0).put (ds i) v ∧ S w' ∧ R w w' ∧ F i (upd vs i v) w' ∧ ∀ j ∈ done, X i j (upd vs i v)) (putAll ds (deps i) (fun j => some (vs j)) a0) w)
    (final : ∀ vs w, S w → R w0 w → (∀ j ∈ is, F j vs w) → (∀ i ∈ is, ∀ j ∈ is, i ≠ j → X i j vs ∨ X j i vs) → wpAnyH P md ops Q S fuel (markAll is (fun _ => true) listed0) (putAll ds is (fun j => some (vs j)) a0) w) :
    wpAnyH P md ops Q S N listed0 a0 w0 := by
  subst hN
  obtain ⟨hnd, hall⟩ := still_spec hst
  have main : ∀ (n : Nat) (done : List Nat) (vs : Nat → Value) (w : World), only md ops is pu deps n done (markAll is (fun j => done.contains j) listed0) = true → S w → R w0 w → (∀ j ∈ done, j ∈ is) → (∀ j ∈ done, ∀ k ∈ deps j, k ∈ done) → (∀ j ∈ done, F j vs w) → (∀ i ∈ done, ∀ j ∈ done, i ≠ j → X i j vs ∨ X j i vs) →
      wpAnyH P md ops Q S (fuel + n) (markAll is (fun j => done.contains j) listed0) (putAll ds is (fun j => if done.contains j then some (vs j) else none) a0) w := by
    intro n
    induction n with
    | zero =>
      intro done vs w hc hS hR _ _ hF hXX
      have hd : ∀ j ∈ is, done.contains j = true := fun j hj => List.all_eq_true.1 hc j hj
      rw [markAll_congr (o' := fun _ => true) hd, putAll_congr (o' := fun j => some (vs j)) (fun j hj => if_pos (hd j hj))]
      exact final vs w hS hR (fun j hj => hF j (by simpa using hd j hj)) (fun i hi j hj => hXX i (by simpa using hd i hi) j (by simpa using hd j hj))
    | succ n ih =>
      intro done vs w hc hS hR hin hdeps hF hXX
      unfold only at hc
      -- what one more that is done leaves
      have next : ∀ i v w', i ∈ is → i ∉ done → (∀ j ∈ deps i, j ∈ done) → only md ops is pu deps n (i :: done) ((markAll is (fun j => done.contains j) listed0).setIfInBounds i true) = true → S w' → R w w' → F i (upd vs i v) w' → (∀ j ∈ done, X i j (upd vs i v)) →
          wpAnyH P md ops Q S (fuel + n) ((markAll is (fun j => done.contains j) listed0).setIfInBounds i true) ((putAll ds is (fun j => if done.contains j then some (vs j) else none) a0).put (ds i) v) w' := by
        intro i v w' hii hnd' hdd h4 hS' hR' hF' hX'
        obtain ⟨oi, hoi, hsel, hdst, hdsz, hndd, hdin, hap⟩ := hall i hii
        have em : (fun j => (i :: done).contains j) = upd (fun j => done.contains j) i true := by
          funext j; unfold upd
          by_cases c : j = i
          · rw [if_pos c, c]; simp
          · rw [if_neg c]; simp [c]
        have ep : (fun j => if (i :: done).contains j then some (upd vs i v j) else none) = upd (fun j => if done.contains j then some (vs j) else none) i (some v) := by
          funext j; unfold upd
          by_cases c : j = i
          · rw [if_pos c, if_pos c, c]; simp
          · rw [if_neg c, if_neg c]; simp [c]
        have huq : ∀ j ∈ is, j ≠ i → ∀ d, ds i = some d → ds j ≠ some d := fun j hj hji d hd e => (hap j hj hji).1 d e hd
        have hm := markAll_upd (o := fun j => done.contains j) (l := listed0) hnd hii (by simpa using hnd')
        have hp := putAll_upd (o := fun j => if done.contains j then some (vs j) else none) (v := v) (a := a0) hnd huq hii (if_neg (by simpa using hnd'))
        rw [← em] at hm
        rw [← ep] at hp
        rw [← hm, ← hp]
        refine ih (i :: done) (upd vs i v) w' (by rw [hm]; exact h4) hS' (ht _ _ _ hR hR') (fun j hj => ?_) (fun j hj k hk => ?_) (fun j hj => ?_) (fun j hj k hk hjk => ?_)
        · rcases List.mem_cons.1 hj with rfl | hj
          · exact hii
          · exact hin j hj
        · rcases List.mem_cons.1 hj with rfl | hj
          · exact List.mem_cons_of_mem _ (hdd k hk)
          · exact List.mem_cons_of_mem _ (hdeps j hj k hk)
        · rcases List.mem_cons.1 hj with rfl | hj
          · exact hF'
          · refine hloc j vs (upd vs i v) w' (fun k hk => ?_) (hstab j vs w w' hR' (hF j hj))
            unfold upd
            refine (if_neg (fun (e : k = i) => ?_)).symm
            rcases hk with e2 | hk
            · exact hnd' (e ▸ e2 ▸ hj)
            · exact hnd' (e ▸ hdeps j hj _ hk)
        · have up : ∀ k ∈ done, vs k = upd vs i v k := fun k hk => (if_neg (fun (e : k = i) => hnd' (e ▸ hk))).symm
          rcases List.mem_cons.1 hj with ej | hj
          · rcases List.mem_cons.1 hk with ek | hk
            · exact absurd (ej.trans ek.symm) hjk
            · rw [ej]; exact .inl (hX' k hk)
          · rcases List.mem_cons.1 hk with ek | hk
            · rw [ek]; exact .inr (hX' j hj)
            · rcases hXX j hj k hk hjk with h | h
              · exact .inl (hX _ _ _ _ (up j hj) (up k hk) h)
              · exact .inr (hX _ _ _ _ (up k hk) (up j hj) h)
      -- it sees the same where those alone are done that it waits for
      have same : ∀ i oi, i ∈ is → ops[i]? = some oi → i ∉ done → (∀ j ∈ deps i, j ∈ done) → Agree (oi.looksAt ops) (putAll ds (deps i) (fun j => some (vs j)) a0) (putAll ds is (fun j => if done.contains j then some (vs j) else none) a0) := by
        intro i oi hii hoi hnd' hdd
        obtain ⟨oi', hoi', hsel, hdst, hdsz, hndd, hdin, hap⟩ := hall i hii
        obtain rfl : oi' = oi := Option.some.inj (hoi'.symm.trans hoi)
        refine ⟨⟨by rw [putAll_size, putAll_size], by rw [putAll_defers, putAll_defers]⟩, fun t ht => ?_⟩
        by_cases hex : ∃ j, j ∈ deps i ∧ ds j = some t
        · obtain ⟨j, hj, hjt⟩ := hex
          have hji := hdin j hj
          have huniq : ∀ k ∈ is, k ≠ j → ∀ d, ds j = some d → ds k ≠ some d := fun k hk hkj d hd e => by
            obtain ⟨_, _, _, _, _, _, _, h⟩ := hall k hk
            exact (h j hji (Ne.symm hkj)).1 d hd e
          rw [putAll_yes hndd (fun k hk => huniq k (hdin k hk)) hj hjt rfl,
            putAll_yes (v := vs j) hnd huniq hji hjt (if_pos (by simpa using hdd j hj))]
        · have hno : ∀ j ∈ is, (fun j => if done.contains j then some (vs j) else none) j ≠ none → ds j ≠ some t := fun j hj hne e => by
            have hji : j ≠ i := fun e2 => by
              subst e2
              simp [hnd'] at hne
            rcases (hap j hj hji).2 with h | h
            · exact hex ⟨j, h, e⟩
            · exact h t e ht
          rw [putAll_no (fun j hj _ e => hex ⟨j, hj, e⟩), putAll_no hno]
      cases hp : pu.find? (fun i => (Region.ready md ops (markAll is (fun j => done.contains j) listed0)).contains i) with
      | some i =>
        rw [hp] at hc
        simp only [Bool.and_eq_true] at hc
        obtain ⟨⟨⟨⟨h1, h2⟩, h3⟩, h5⟩, h4⟩ := hc
        have hii : i ∈ is := by simpa using h1
        have hnd' : i ∉ done := by simpa using h2
        have hdd : ∀ j ∈ deps i, j ∈ done := fun j hj => by have := List.all_eq_true.1 h3 j hj; simpa using this
        have hpu : i ∈ pu := List.mem_of_find?_eq_some hp
        have hrd : (Region.ready md ops (markAll is (fun j => done.contains j) listed0)).contains i = true := List.find?_some hp
        obtain ⟨oi, hoi, hpure⟩ := pures i hpu
        obtain ⟨v, hy, hF', hX'⟩ := hpure done vs w hnd' hS hR hdd hF
        obtain ⟨oi', hoi', hsel, hdst, hdsz, hndd, hdin, hap⟩ := hall i hii
        obtain rfl : oi' = oi := Option.some.inj (hoi'.symm.trans hoi)
        have hA := same i oi' hii hoi hnd' hdd
        refine wpAnyH_first hoi (Region.noSelect_spec hns) (fun c a w h => ?_) (fuel + n) _ _ w (Region.free_spec hoi h5) (by simpa using hrd) (hy.of_same (hA.exec hsel) hA.wants) hS ?_
        · obtain ⟨x, l⟩ := a
          cases hd : oi'.dst with
          | none => rw [hd] at h; exact h
          | some d => rw [hd] at h; exact hQ c _ x l w h
        · rw [hdst]
          exact next i v w hii hnd' hdd h4 hS (hr w) hF' hX'
      | none =>
        rw [hp] at hc
        simp only [Bool.and_eq_true] at hc
        refine ⟨fun he => ?_, fun i hi => ?_⟩
        · rw [he] at hc; exact absurd hc.1 (by simp)
        · have h1 := List.all_eq_true.1 hc.2 i hi
          simp only [Bool.and_eq_true] at h1
          obtain ⟨⟨⟨⟨h1, h6⟩, h2⟩, h3⟩, h4⟩ := h1
          have hii : i ∈ is := by simpa using h1
          have hnd' : i ∉ done := by simpa using h2
          have hnpu : i ∉ pu := by simpa using h6
          have hdd : ∀ j ∈ deps i, j ∈ done := fun j hj => by have := List.all_eq_true.1 h3 j hj; simpa using this
          obtain ⟨oi, hoi, hsel, hdst, hdsz, hndd, hdin, hap⟩ := hall i hii
          have hst1 := steps i hii hnpu done vs w hnd' hS hR hdd hF
          rw [← hdst] at hst1
          have hst2 := wpOp_base hoi (same i oi hii hoi hnd' hdd) hsel (by rw [putAll_size]; exact hdsz) hQ hst1
          refine wpOp_mono (fun a' w' h => ?_) hst2
          obtain ⟨v, rfl, hS', hR', hF', hX'⟩ := h
          refine ⟨hS', ?_⟩
          rw [hdst]
          exact next i v w' hii hnd' hdd h4 hS' hR' hF' hX'
  have e0 : markAll is (fun j => ([] : List Nat).contains j) listed0 = listed0 := by
    clear main steps final hall hst hchk hnd
    induction is with
    | nil => rfl
    | cons i is ih => unfold markAll; simpa using ih
  have e1 : putAll ds is (fun j => if ([] : List Nat).contains j then some (undef : Value) else none) a0 = a0 := by
    clear main steps final hall hst hchk hnd e0
    induction is with
    | nil => rfl
    | cons i is ih => unfold putAll; simpa using ih
  have := main is.length [] (fun _ => undef) w0 (by rw [e0]; exact hchk) hS (hr _) (fun j hj => by cases hj) (fun j hj => by cases hj) (fun j hj => by cases hj) (fun j hj => by cases hj)
  rw [e0, e1] at this
  exact this

end
end Go.Proofs.YtdipddnnckfnmaaGreat.Par

/- LawState:
  What the laws of layer 9 make of raw numbers: a state: what calls have made. Conditions: the configuration fits; the raw calls can be read.
-/
namespace Go.Proofs.YtdipddnnckfnmaaGreat.Law
open Go.RowKit (Below intOf)
open Go.Proofs.YtdipddnnckfnmaaGreat.Aut
open Go.Proofs.YtdipddnnckfnmaaGreat.Reg (cf bx fits_any)

/-- It answers a state that is right. -/
def StE (k p m : Int) (w : World) (e : Ending) (w' : World) : Prop := ∃ s : St, rightS k p m s = true ∧ ∃ a v t : Sl, e = .returned (sv s.reg a v t s.closed) ∧ SS w' a v t s ∧ Ext w w'
/-- What a round finds. -/
def StL (k p m : Int) (w wr : World) (S : Nat) : Prop := ∃ (s : St) (a v t : Sl), rightS k p m s = true ∧ SS wr a v t s ∧ OffS a v t (w.heap.size + 1) ∧ Cb wr S (sc s.reg a v t s.closed) ∧ Cb wr w.heap.size [.int .i64 k, .int .i64 p, .int .i64 m] ∧ Cb wr (w.heap.size + 1) (sc 0 nilSl nilSl nilSl false) ∧ Ext w wr
theorem off_new {w1 : World} {a v t : Sl} {s : St} {b : Nat} {cs : List Value} (hk : s.keys = []) (hv : s.vals = []) (h : SS w1 a v t s) (_ : Cb w1 b cs) (hb : ∀ o x, w1.cell? ⟨b, o, none⟩ ≠ some (.int .i64 x)) : OffS a v t b := by
  obtain ⟨_, h1, h2, h3⟩ := h
  refine ⟨fun hn => ?_, fun hn => ?_, fun hn g o e q => ?_⟩
  · have := h1.len; rw [hk] at this; simp at this; omega
  · have := h2.len; rw [hv] at this; simp at this; omega
  · obtain ⟨x, _, _, b', o', e2, hc⟩ := h3.get (k := 0) hn
    rw [e] at e2; cases e2; subst q
    exact hb _ x hc
/-- What a round's call leaves. -/
def StC (k p m : Int) (w wx : World) (S : Nat) (v8 v10 : Value) : Prop := v10 = .int .i64 0 ∧ ∃ B : Nat, v8 = .pointer (some ⟨B, 0, none⟩) ∧ ∃ (d : St) (a v t : Sl), rightS k p m d = true ∧ SS wx a v t d ∧ OffS a v t S ∧ OffS a v t (w.heap.size + 1) ∧ Cb wx B (sc d.reg a v t d.closed) ∧ (∃ (s : St) (a v t : Sl), Cb wx S (sc s.reg a v t s.closed)) ∧ Cb wx w.heap.size [.int .i64 k, .int .i64 p, .int .i64 m] ∧ Cb wx (w.heap.size + 1) (sc 0 nilSl nilSl nilSl false) ∧ Ext w wx
theorem u64_i {i : Nat} (h : i ≤ 4096) : IntKind.u64.wrap (i : Int) = (i : Int) ∧ U64 (i : Int) := by
  refine ⟨?_, ?_⟩
  · simp only [IntKind.wrap_u64]; omega
  · unfold U64; omega
def stDeps : Nat → List Nat := fun i => match i with | 10 => [9] | 11 => [10] | 12 => [10, 11] | 13 => [10, 11] | 14 => [10, 11] | _ => []
def stSlots : Nat → Option Tmp := fun i => match i with | 9 => some 36 | 10 => some 37 | 11 => some 26 | 12 => some 38 | 13 => some 39 | 14 => some 40 | 15 => some 8 | 16 => some 9 | _ => none
/-- What each operation of the round's region leaves. -/
def StF (k p m : Int) (wr : World) : Nat → (Nat → Value) → World → Prop := fun i vs w' => match i with
  | 9 => ∃ oo, Wc oo ∧ vs 9 = ov oo
  | 10 => ∃ (d : St) (a v t : Sl) (d2 d3 : Int), rightS k p m d = true ∧ SS w' a v t d ∧ (∀ B, B < wr.heap.size → OffS a v t B) ∧ vs 10 = .tuple #[sv d.reg a v t d.closed, rv d2 d3, .int .i64 0]
  | 11 => vs 11 = vs 10
  | 12 => ∃ x y z, vs 10 = .tuple #[x, y, z] ∧ vs 12 = x
  | 13 => ∃ x y z, vs 10 = .tuple #[x, y, z] ∧ vs 13 = y
  | 14 => ∃ x y z, vs 10 = .tuple #[x, y, z] ∧ vs 14 = z
  | 15 => ∃ B : Nat, vs 15 = .pointer (some ⟨B, 0, none⟩) ∧ wr.heap.size ≤ B ∧ Cb w' B (sc 0 nilSl nilSl nilSl false)
  | 16 => ∃ B : Nat, vs 16 = .pointer (some ⟨B, 0, none⟩) ∧ wr.heap.size ≤ B ∧ Cb w' B [.int .i64 0, .int .u64 0]
  | _ => True
/-- What lies in a box is no state's row; two boxes are two. -/
def StX : Nat → Nat → (Nat → Value) → Prop := fun i j vs =>
  (i = 10 ∨ j = 10 → ∀ b : Nat, (b = 15 ∨ b = 16) → (i = b ∨ j = b) → ∀ (B : Nat) r a v t cl y z, vs b = .pointer (some ⟨B, 0, none⟩) → vs 10 = .tuple #[sv r a v t cl, y, z] → OffS a v t B) ∧
  (i = 15 ∨ j = 15 → i = 16 ∨ j = 16 → ∀ B B' : Nat, vs 15 = .pointer (some ⟨B, 0, none⟩) → vs 16 = .pointer (some ⟨B', 0, none⟩) → B ≠ B')
theorem stF_loc {k p m : Int} {wr : World} : ∀ i vs vs' w, (∀ j, j = i ∨ j ∈ stDeps i → vs j = vs' j) → StF k p m wr i vs w → StF k p m wr i vs' w := by
  intro i vs vs' w h hF
  unfold StF at hF ⊢
  split at hF
  · obtain ⟨oo, h1, h2⟩ := hF; exact ⟨oo, h1, (h 9 (.inl rfl)).symm.trans h2⟩
  · obtain ⟨d, a, v, t, d2, d3, h1, h2, h3, h4⟩ := hF; exact ⟨d, a, v, t, d2, d3, h1, h2, h3, (h 10 (.inl rfl)).symm.trans h4⟩
  · exact (h 11 (.inl rfl)).symm.trans (hF.trans (h 10 (.inr (by decide))))
  · obtain ⟨x, y, z, h1, h2⟩ := hF; exact ⟨x, y, z, (h 10 (.inr (by decide))).symm.trans h1, (h 12 (.inl rfl)).symm.trans h2⟩
  · obtain ⟨x, y, z, h1, h2⟩ := hF; exact ⟨x, y, z, (h 10 (.inr (by decide))).symm.trans h1, (h 13 (.inl rfl)).symm.trans h2⟩
  · obtain ⟨x, y, z, h1, h2⟩ := hF; exact ⟨x, y, z, (h 10 (.inr (by decide))).symm.trans h1, (h 14 (.inl rfl)).symm.trans h2⟩
  · obtain ⟨B, h1, h2⟩ := hF; exact ⟨B, (h 15 (.inl rfl)).symm.trans h1, h2⟩
  · obtain ⟨B, h1, h2⟩ := hF; exact ⟨B, (h 16 (.inl rfl)).symm.trans h1, h2⟩
  · trivial
theorem stF_stab {k p m : Int} {wr : World} : ∀ i vs w w', Ext w w' → StF k p m wr i vs w → StF k p m wr i vs w' := by
  intro i vs w w' h hF
  unfold StF at hF ⊢
  split at hF
  · exact hF
  · obtain ⟨d, a, v, t, d2, d3, h1, h2, h3⟩ := hF; exact ⟨d, a, v, t, d2, d3, h1, h2.ext h, h3⟩
  · exact hF
  · exact hF
  · exact hF
  · exact hF
  · obtain ⟨B, h1, h2, h3⟩ := hF; exact ⟨B, h1, h2, h3.ext h⟩
  · obtain ⟨B, h1, h2, h3⟩ := hF; exact ⟨B, h1, h2, h3.ext h⟩
  · trivial
theorem stX_loc : ∀ i j vs vs', vs i = vs' i → vs j = vs' j → StX i j vs → StX i j vs' := by
  intro i j vs vs' hi hj ⟨h1, h2⟩
  refine ⟨fun h10 b hb hbb B r a v t cl y z e1 e2 => h1 h10 b hb hbb B r a v t cl y z ?_ ?_, fun h15 h16 B B' e1 e2 => h2 h15 h16 B B' ?_ ?_⟩
  · rcases hbb with rfl | rfl
    · exact hi.trans e1
    · exact hj.trans e1
  · rcases h10 with rfl | rfl
    · exact hi.trans e2
    · exact hj.trans e2
  · rcases h15 with rfl | rfl
    · exact hi.trans e1
    · exact hj.trans e1
  · rcases h16 with rfl | rfl
    · exact hi.trans e2
    · exact hj.trans e2
theorem stX_no {i j : Nat} {vs : Nat → Value} (h0 : i ≠ 10) (h5 : i ≠ 15) (h6 : i ≠ 16) : StX i j vs := by
  refine ⟨fun h10 b hb hbb => ?_, fun h15 h16 => ?_⟩ <;> omega
theorem stX_do {k p m : Int} {wr w5 : World} {j : Nat} {vs : Nat → Value} {r : Int} {a v t : Sl} {cl : Bool} {y z : Value} (hF : StF k p m wr j vs w5) (hO : ∀ B, B < w5.heap.size → OffS a v t B) : StX 10 j (Par.upd vs 10 (.tuple #[sv r a v t cl, y, z])) := by
  obtain ⟨ka, kn, kc⟩ := a
  obtain ⟨va, vn, vc⟩ := v
  obtain ⟨ta, tn, tc⟩ := t
  refine ⟨fun _ b hb hbb B r' a' v' t' cl' y' z' e1 e2 => ?_, fun h15 h16 => by omega⟩
  obtain ⟨ka', kn', kc'⟩ := a'
  obtain ⟨va', vn', vc'⟩ := v'
  obtain ⟨ta', tn', tc'⟩ := t'
  have hj : j = b := by omega
  subst hj
  have e2' : (.tuple #[sv r ⟨ka, kn, kc⟩ ⟨va, vn, vc⟩ ⟨ta, tn, tc⟩ cl, y, z] : Value) = .tuple #[sv r' ⟨ka', kn', kc'⟩ ⟨va', vn', vc'⟩ ⟨ta', tn', tc'⟩ cl', y', z'] := e2
  cases e2'
  have e1' : vs j = .pointer (some ⟨B, 0, none⟩) := by
    have : Par.upd vs 10 (.tuple #[sv r ⟨ka, kn, kc⟩ ⟨va, vn, vc⟩ ⟨ta, tn, tc⟩ cl, y, z]) j = vs j := if_neg (by omega)
    rw [← this]; exact e1
  rcases hb with rfl | rfl
  · obtain ⟨B', e3, _, h⟩ := hF
    cases e3.symm.trans e1'
    exact hO _ h.lt
  · obtain ⟨B', e3, _, h⟩ := hF
    cases e3.symm.trans e1'
    exact hO _ h.lt
theorem stX_box {k p m : Int} {wr w5 : World} {i j : Nat} {vs : Nat → Value} (hi : i = 15 ∨ i = 16) (hij : j ≠ i) (hF : StF k p m wr j vs w5) : StX i j (Par.upd vs i (.pointer (some ⟨w5.heap.size, 0, none⟩))) := by
  have hup : ∀ x, x ≠ i → Par.upd vs i (.pointer (some ⟨w5.heap.size, 0, none⟩)) x = vs x := fun x h => if_neg h
  have hus : Par.upd vs i (.pointer (some ⟨w5.heap.size, 0, none⟩)) i = .pointer (some ⟨w5.heap.size, 0, none⟩) := if_pos rfl
  refine ⟨fun h10 b hb hbb B r a v t cl y z e1 e2 => ?_, fun h15 h16 B B' e1 e2 => ?_⟩
  · obtain ⟨ka, kn, kc⟩ := a
    obtain ⟨va, vn, vc⟩ := v
    obtain ⟨ta, tn, tc⟩ := t
    have hj : j = 10 := by omega
    subst hj
    have hb : b = i := by omega
    subst hb
    rw [hus] at e1
    cases e1
    rw [hup 10 (by omega)] at e2
    obtain ⟨d, ⟨ka', kn', kc'⟩, ⟨va', vn', vc'⟩, ⟨ta', tn', tc'⟩, d2, d3, _, h2, _, e3⟩ := hF
    cases e3.symm.trans e2
    exact h2.off (Nat.le_refl _)
  · rcases hi with rfl | rfl
    · rw [hus] at e1
      cases e1
      have hj : j = 16 := by omega
      subst hj
      rw [hup 16 (by omega)] at e2
      obtain ⟨B2, e3, _, h⟩ := hF
      cases e3.symm.trans e2
      have := h.lt
      omega
    · rw [hus] at e2
      cases e2
      have hj : j = 15 := by omega
      subst hj
      rw [hup 15 (by omega)] at e1
      obtain ⟨B2, e3, _, h⟩ := hF
      cases e3.symm.trans e1
      have := h.lt
      omega
theorem stX_off {vs : Nat → Value} {b : Nat} {B : Nat} {r : Int} {a v t : Sl} {cl : Bool} {y z : Value} (h : StX 10 b vs ∨ StX b 10 vs) (hb : b = 15 ∨ b = 16) (e1 : vs b = .pointer (some ⟨B, 0, none⟩)) (e2 : vs 10 = .tuple #[sv r a v t cl, y, z]) : OffS a v t B := by
  rcases h with h | h
  · exact h.1 (.inl rfl) b hb (.inr rfl) B r a v t cl y z e1 e2
  · exact h.1 (.inr rfl) b hb (.inl rfl) B r a v t cl y z e1 e2
theorem stX_ne {vs : Nat → Value} {B B' : Nat} (h : StX 15 16 vs ∨ StX 16 15 vs) (e1 : vs 15 = .pointer (some ⟨B, 0, none⟩)) (e2 : vs 16 = .pointer (some ⟨B', 0, none⟩)) : B ≠ B' := by
  rcases h with h | h
  · exact h.2 (.inl rfl) (.inr rfl) B B' e1 e2
  · exact h.2 (.inr rfl) (.inl rfl) B B' e1 e2
set_option maxHeartbeats 8000000 in
set_option maxRecDepth 100000 in
theorem state_any {k p m : Int} (sl : Option Addr) (n c : Nat) (w : World) (hf : fits k p m = true) (hT : TS w sl n) :
    Calls Tryz.prog 10 #[cf k p m, .slice sl n c] w (StE k p m w) := by
  have hm : I64 m := by have := fits_of hf; unfold I64; omega
  have hnew : newS k p m = ((newS k p m).1, 0) := by unfold newS; rw [if_pos hf]
  have HN : RowKit.Hid (∀ W, _) := Lib.hid (fun W => rnew_any k p m W)
  rw [hnew] at HN
  have HNR := Lib.hid (new_right hf)
  have HK0 : RowKit.Hid ((newS k p m).1.keys = [] ∧ (newS k p m).1.vals = []) := Lib.hid (by unfold newS; rw [if_pos hf]; exact ⟨rfl, rfl⟩)
  generalize (newS k p m).1 = s0 at *
  have HTS := Lib.hid hT
  have HF := Lib.hid hf
  have HM := Lib.hid hm
  have b0 : Cb ((w.alloc (.cells #[.int .i64 k, .int .i64 p, .int .i64 m] 24)).alloc (.cells #[.int .u64 0, .slice none 0 0, .slice none 0 0, .slice none 0 0, .bool false] 30)) w.heap.size [.int .i64 k, .int .i64 p, .int .i64 m] := (Cb.new w _ _).alloc _
  have b1 : Cb ((w.alloc (.cells #[.int .i64 k, .int .i64 p, .int .i64 m] 24)).alloc (.cells #[.int .u64 0, .slice none 0 0, .slice none 0 0, .slice none 0 0, .bool false] 30)) (w.heap.size + 1) (sc 0 nilSl nilSl nilSl false) := by repeat (first | ((with_reducible refine Cb.at _ rfl ?_); (simp; done)) | with_reducible refine Cb.alloc ?_ _)
  have hX : Ext w ((w.alloc (.cells #[.int .i64 k, .int .i64 p, .int .i64 m] 24)).alloc (.cells #[.int .u64 0, .slice none 0 0, .slice none 0 0, .slice none 0 0, .bool false] 30)) := (Ext.new w _).alloc _
  obtain ⟨c0, c1, c2⟩ := b0.three
  have HB0 := Lib.hid b0
  have HB1 := Lib.hid b1
  have HX := Lib.hid hX
  clear b0 b1 hX hT hf hnew hm
  dsimp only [cf, sv] at *
  go_enter Tryz.func10, Tryz.ntmps10
  go_wp2_with (first
    | (go_at_call 14; (with_reducible refine (HN.out _).mono ?_); rintro e w1 ⟨e1, ⟨ka, kn, kc⟩, ⟨va, vn, vc⟩, ⟨ta, tn, tc⟩, rfl, s1⟩; have E1 := Lib.hid e1; have S1 := Lib.hid s1; clear e1 s1 c0 c1 c2))
  have HBL : RowKit.Hid (∀ o x, w1.cell? ⟨w.heap.size + 1, o, none⟩ ≠ some (.int .i64 x)) := Lib.hid (fun o x h => by
    have hb := E1.out.block (w.heap.size + 1) (by simp)
    unfold World.cell? at h
    simp only [hb] at h
    have hn := World.alloc_heap_new (w.alloc (.cells #[.int .i64 k, .int .i64 p, .int .i64 m] 24)) (.cells #[.int .u64 0, .slice none 0 0, .slice none 0 0, .slice none 0 0, .bool false] 30)
    simp only [World.size_alloc] at hn
    rw [hn] at h
    rcases o with _ | _ | _ | _ | _ | o <;> simp at h)
  obtain ⟨r0, ks0, vs0, vt0, cl0⟩ := s0
  have HL0 : RowKit.Hid (StL k p m w (w1.alloc (.cells #[.int .u64 r0, .slice ka kn kc, .slice va vn vc, .slice ta tn tc, .bool cl0] 30)) w1.heap.size) := Lib.hid (by
    refine ⟨⟨r0, ks0, vs0, vt0, cl0⟩, ⟨ka, kn, kc⟩, ⟨va, vn, vc⟩, ⟨ta, tn, tc⟩, HNR.out, S1.out.ext (Ext.new _ _), off_new HK0.out.1 HK0.out.2 S1.out (HB1.out.ext E1.out) HBL.out, Cb.new w1 _ _, (HB0.out.ext E1.out).alloc _, (HB1.out.ext E1.out).alloc _, (HX.out.trans E1.out).alloc _⟩)
  have hz1 : w.heap.size + 1 + 1 ≤ w1.heap.size := by have := E1.out.size; simpa only [World.size_alloc] using this
  clear HB0 HB1 HX E1 S1 HNR HN HK0 HBL
  dsimp only at *
  go_loopw [7] (fun iv wr => ∃ i : Nat, iv = .int .i64 i ∧ i ≤ 30 ∧ StL k p m w wr w1.heap.size) (fun iv _ => 30 - (intOf iv).toNat)
  case atStart => exact ⟨0, rfl, by omega, HL0.out⟩
  case round =>
    obtain ⟨i, rfl, hi30, ⟨sr, sk, su, sw, scl⟩, ⟨ka4, kn4, kc4⟩, ⟨va4, vn4, vc4⟩, ⟨ta4, tn4, tc4⟩, hR, hS, hO, hB, hC, hD, hE⟩ := hrel
    clear HL0
    by_cases hin : i < n ∧ i < 30
    · obtain ⟨hin, hi3⟩ := hin
      obtain ⟨rx, ry, rz, ux, uy, uz, b, o, esl, cx, cy, cz⟩ := HTS.out.2 i hin
      subst esl
      have hii : (i : Int) < n := by omega
      have hi3i : (i : Int) < 30 := by omega
      have hui := Lib.hid (u64_i (i := i) (by omega))
      have HOp := Lib.hid (fun W => op_any rx ry rz (i : Int) W HF.out ux uy uz hui.out.2)
      have HDo := Lib.hid (fun W (h : SS W ⟨ka4, kn4, kc4⟩ ⟨va4, vn4, vc4⟩ ⟨ta4, tn4, tc4⟩ ⟨sr, sk, su, sw, scl⟩) o (ho : Wc o) => rdo_any k p m ⟨ka4, kn4, kc4⟩ ⟨va4, vn4, vc4⟩ ⟨ta4, tn4, tc4⟩ ⟨sr, sk, su, sw, scl⟩ o W HM.out h ho)
      have hdo : RowKit.Hid (∀ o, doF k p m ⟨sr, sk, su, sw, scl⟩ o = ((doS k m ⟨sr, sk, su, sw, scl⟩ o).1, (doS k m ⟨sr, sk, su, sw, scl⟩ o).2, 0)) := Lib.hid (fun o => by unfold doF; rw [if_pos HF.out, if_pos hR])
      have cx2 := hE.cell cx
      have cy2 := hE.cell cy
      have cz2 := hE.cell cz
      obtain ⟨c0, c1, c2⟩ := hC.three
      obtain ⟨s0, s1, s2, s3, s4⟩ := hB.five
      have HR := Lib.hid hR
      have HS := Lib.hid hS
      clear hO
      have HB := Lib.hid hB
      have HC := Lib.hid hC
      have HD := Lib.hid hD
      have HE := Lib.hid hE
      have hlt1 : w1.heap.size < wr.heap.size := hB.lt
      clear hR hS hB hC hD hE cx cy cz ux uy uz
      have hui1 := hui.out.1
      go_upto_region 5 with (fail)
      go_cut [8, 9, 10] from 26 to 40 (fun v8 v9 v10 wx => StC k p m w wx w1.heap.size v8 v10)
      case first =>
        refine wp_region_held_drew (S := fun w' => Ext wr w') (by kernel_rfl) (Ext.drew (Ext.refl wr)) (fun hHeld => ?_)
        refine wpAnyH_take (i := 0) (v := .agg #[.int .i64 k, .int .i64 p, .int .i64 m]) rfl (by kernel_rfl) (by kernel_rfl) (by kernel_rfl) (fun _ _ _ h => h) (Or.inl ⟨by kernel_rfl, ?_⟩) (by assumption) ?_
        · intro w hE
          have q0 := hE.cell c0
          have q1 := hE.cell c1
          have q2 := hE.cell c2
          go_simp
        refine wpAnyH_take (i := 1) (v := .agg #[.int .u64 sr, .slice ka4 kn4 kc4, .slice va4 vn4 vc4, .slice ta4 tn4 tc4, .bool scl]) rfl (by kernel_rfl) (by kernel_rfl) (by kernel_rfl) (fun _ _ _ h => h) (Or.inl ⟨by kernel_rfl, ?_⟩) (by assumption) ?_
        · intro w hE
          have q0 := hE.cell s0
          have q1 := hE.cell s1
          have q2 := hE.cell s2
          have q3 := hE.cell s3
          have q4 := hE.cell s4
          go_simp
        refine wpAnyH_take (i := 2) (v := .agg #[.int .i64 k, .int .i64 p, .int .i64 m]) rfl (by kernel_rfl) (by kernel_rfl) (by kernel_rfl) (fun _ _ _ h => h) (Or.inl ⟨by kernel_rfl, ?_⟩) (by assumption) ?_
        · intro w hE
          have q0 := hE.cell c0
          have q1 := hE.cell c1
          have q2 := hE.cell c2
          go_simp
        refine wpAnyH_take (i := 3) (v := .slice (some ⟨b, o, none⟩) n c) rfl (by kernel_rfl) (by kernel_rfl) (by kernel_rfl) (fun _ _ _ h => h) (Or.inl ⟨by kernel_rfl, ?_⟩) (by assumption) ?_
        · intro w hE
          go_simp
        refine wpAnyH_take (i := 4) (v := .int .i64 (i : Int)) rfl (by kernel_rfl) (by kernel_rfl) (by kernel_rfl) (fun _ _ _ h => h) (Or.inl ⟨by kernel_rfl, ?_⟩) (by assumption) ?_
        · intro w hE
          go_simp
        refine wpAnyH_take (i := 5) (v := .pointer (some ⟨b, o + i * 3, none⟩)) rfl (by kernel_rfl) (by kernel_rfl) (by kernel_rfl) (fun _ _ _ h => h) (Or.inl ⟨by kernel_rfl, ?_⟩) (by assumption) ?_
        · intro w hE
          go_simp
        refine wpAnyH_take (i := 6) (v := .agg #[.int .i64 rx, .int .i64 ry, .int .i64 rz]) rfl (by kernel_rfl) (by kernel_rfl) (by kernel_rfl) (fun _ _ _ h => h) (Or.inl ⟨by kernel_rfl, ?_⟩) (by assumption) ?_
        · intro w hE
          have q0 := hE.cell cx2
          have q1 := hE.cell cy2
          have q2 := hE.cell cz2
          go_simp
        refine wpAnyH_take (i := 7) (v := .int .i64 (i : Int)) rfl (by kernel_rfl) (by kernel_rfl) (by kernel_rfl) (fun _ _ _ h => h) (Or.inl ⟨by kernel_rfl, ?_⟩) (by assumption) ?_
        · intro w hE
          go_simp
        refine wpAnyH_take (i := 8) (v := .int .u64 (i : Int)) rfl (by kernel_rfl) (by kernel_rfl) (by kernel_rfl) (fun _ _ _ h => h) (Or.inl ⟨by kernel_rfl, ?_⟩) (by assumption) ?_
        · intro w hE
          go_simp
        clear c0 c1 c2 s0 s1 s2 s3 s4 cx2 cy2 cz2
        refine Par.wpAnyH_par (fuel := 3) [9, 10, 11, 12, 13, 14, 15, 16] [11, 12, 13, 14] stDeps stSlots (StF k p m wr) StX Ext rfl (by kernel_rfl) (by kernel_rfl) (by kernel_rfl) (fun _ _ _ _ _ h => h) Ext.refl (fun _ _ _ h g => Ext.trans h g) stF_loc stF_stab stX_loc (by assumption) ?_ ?_ ?_
        · refine List.forall_mem_cons.2 ⟨?_, List.forall_mem_cons.2 ⟨?_, List.forall_mem_cons.2 ⟨?_, List.forall_mem_cons.2 ⟨?_, fun _ h => by cases h⟩⟩⟩⟩
          · refine ⟨_, rfl, fun done vs w5 hn hS5 hR5 hd hF => ?_⟩
            obtain ⟨⟨dr, dk, dv, dt, dc⟩, ⟨k6, n6, c6⟩, ⟨p6, q6, r6⟩, ⟨x6, y6, u6⟩, d2, d3, _, _, _, e10⟩ := hF 10 (hd 10 (by decide))
            refine ⟨.tuple #[sv dr ⟨k6, n6, c6⟩ ⟨p6, q6, r6⟩ ⟨x6, y6, u6⟩ dc, rv d2 d3, .int .i64 0], Or.inl ⟨by kernel_rfl, ?_⟩, e10.symm, fun j _ => stX_no (by decide) (by decide) (by decide)⟩
            intro w hE
            simp only [stDeps, Par.putAll_nil, Par.putAll_some, stSlots]
            simp only [e10]
            go_simp
          · refine ⟨_, rfl, fun done vs w5 hn hS5 hR5 hd hF => ?_⟩
            obtain ⟨⟨dr, dk, dv, dt, dc⟩, ⟨k6, n6, c6⟩, ⟨p6, q6, r6⟩, ⟨x6, y6, u6⟩, d2, d3, _, _, _, e10⟩ := hF 10 (hd 10 (by decide))
            have e11 : vs 11 = vs 10 := hF 11 (hd 11 (by decide))
            refine ⟨sv dr ⟨k6, n6, c6⟩ ⟨p6, q6, r6⟩ ⟨x6, y6, u6⟩ dc, Or.inl ⟨by kernel_rfl, ?_⟩, ⟨_, _, _, e10, rfl⟩, fun j _ => stX_no (by decide) (by decide) (by decide)⟩
            intro w hE
            simp only [stDeps, Par.putAll_nil, Par.putAll_some, stSlots]
            simp only [e11, e10]
            go_simp
          · refine ⟨_, rfl, fun done vs w5 hn hS5 hR5 hd hF => ?_⟩
            obtain ⟨⟨dr, dk, dv, dt, dc⟩, ⟨k6, n6, c6⟩, ⟨p6, q6, r6⟩, ⟨x6, y6, u6⟩, d2, d3, _, _, _, e10⟩ := hF 10 (hd 10 (by decide))
            have e11 : vs 11 = vs 10 := hF 11 (hd 11 (by decide))
            refine ⟨rv d2 d3, Or.inl ⟨by kernel_rfl, ?_⟩, ⟨_, _, _, e10, rfl⟩, fun j _ => stX_no (by decide) (by decide) (by decide)⟩
            intro w hE
            simp only [stDeps, Par.putAll_nil, Par.putAll_some, stSlots]
            simp only [e11, e10]
            go_simp
          · refine ⟨_, rfl, fun done vs w5 hn hS5 hR5 hd hF => ?_⟩
            obtain ⟨⟨dr, dk, dv, dt, dc⟩, ⟨k6, n6, c6⟩, ⟨p6, q6, r6⟩, ⟨x6, y6, u6⟩, d2, d3, _, _, _, e10⟩ := hF 10 (hd 10 (by decide))
            have e11 : vs 11 = vs 10 := hF 11 (hd 11 (by decide))
            refine ⟨.int .i64 0, Or.inl ⟨by kernel_rfl, ?_⟩, ⟨_, _, _, e10, rfl⟩, fun j _ => stX_no (by decide) (by decide) (by decide)⟩
            intro w hE
            simp only [stDeps, Par.putAll_nil, Par.putAll_some, stSlots]
            simp only [e11, e10]
            go_simp
        · refine List.forall_mem_cons.2 ⟨?_, List.forall_mem_cons.2 ⟨?_, List.forall_mem_cons.2 ⟨?_, List.forall_mem_cons.2 ⟨?_, List.forall_mem_cons.2 ⟨?_, List.forall_mem_cons.2 ⟨?_, List.forall_mem_cons.2 ⟨?_, List.forall_mem_cons.2 ⟨?_, fun _ h => by cases h⟩⟩⟩⟩⟩⟩⟩⟩
          · intro _ done vs w5 hn hS5 hR5 hd hF
            simp only [stDeps, Par.putAll_nil]
            refine Par.step_of rfl (fun K hK => ?_)
            go_simp
            refine (HOp.out _).mono ?_
            rintro e w6 ⟨oo, ho, rfl, e6⟩
            exact hK.out _ _ ⟨ov oo, by kernel_rfl, hS5.trans e6, e6, ⟨oo, ho, rfl⟩, fun j _ => stX_no (by decide) (by decide) (by decide)⟩
          · intro _ done vs w5 hn hS5 hR5 hd hF
            obtain ⟨oo, ho, e9⟩ := hF 9 (hd 9 (by decide))
            simp only [stDeps, Par.putAll_nil, Par.putAll_some, stSlots]
            simp only [e9]
            refine Par.step_of rfl (fun K hK => ?_)
            have hD := HDo.out _ (HS.out.ext hS5) oo ho
            rw [hdo.out oo] at hD
            have hRd := (do_right HR.out HS.out.wd oo ho).1
            generalize doS k m ⟨sr, sk, su, sw, scl⟩ oo = d at hD hRd
            obtain ⟨⟨dr, dk, dv, dt, dc⟩, d2, d3⟩ := d
            go_simp
            refine hD.mono ?_
            rintro e w6 ⟨e6, ⟨k6, n6, c6⟩, ⟨p6, q6, r6⟩, ⟨x6, y6, u6⟩, rfl, S6, O6⟩
            exact hK.out _ _ ⟨.tuple #[sv dr ⟨k6, n6, c6⟩ ⟨p6, q6, r6⟩ ⟨x6, y6, u6⟩ dc, rv d2 d3, .int .i64 0], by kernel_rfl, hS5.trans e6, e6, ⟨⟨dr, dk, dv, dt, dc⟩, ⟨k6, n6, c6⟩, ⟨p6, q6, r6⟩, ⟨x6, y6, u6⟩, d2, d3, hRd, S6, fun B hB => O6 B (Nat.lt_of_lt_of_le hB hS5.size), rfl⟩, fun j hj => stX_do (hF j hj) O6⟩
          · exact fun h => absurd (by decide) h
          · exact fun h => absurd (by decide) h
          · exact fun h => absurd (by decide) h
          · exact fun h => absurd (by decide) h
          · intro _ done vs w5 hn hS5 hR5 hd hF
            simp only [stDeps, Par.putAll_nil]
            refine Par.step_of rfl (fun K hK => ?_)
            go_simp
            exact hK.out _ _ ⟨.pointer (some ⟨w5.heap.size, 0, none⟩), by kernel_rfl, hS5.alloc _, Ext.new _ _, ⟨w5.heap.size, rfl, hS5.size, Cb.new w5 _ _⟩, fun j hj => stX_box (.inl rfl) (fun e => hn (e ▸ hj)) (hF j hj)⟩
          · intro _ done vs w5 hn hS5 hR5 hd hF
            simp only [stDeps, Par.putAll_nil]
            refine Par.step_of rfl (fun K hK => ?_)
            go_simp
            exact hK.out _ _ ⟨.pointer (some ⟨w5.heap.size, 0, none⟩), by kernel_rfl, hS5.alloc _, Ext.new _ _, ⟨w5.heap.size, rfl, hS5.size, Cb.new w5 _ _⟩, fun j hj => stX_box (.inr rfl) (fun e => hn (e ▸ hj)) (hF j hj)⟩
        · intro vs w5 hS5 hR5 hF hXX
          obtain ⟨oo, ho, e9⟩ := hF 9 (by decide)
          obtain ⟨⟨dr, dk, dv, dt, dc⟩, ⟨k6, n6, c6⟩, ⟨p6, q6, r6⟩, ⟨x6, y6, u6⟩, d2, d3, hRd, S6, O6, e10⟩ := hF 10 (by decide)
          have e11 : vs 11 = vs 10 := hF 11 (by decide)
          obtain ⟨_, _, _, e, e12⟩ := hF 12 (by decide)
          cases e10.symm.trans e
          obtain ⟨_, _, _, e, e13⟩ := hF 13 (by decide)
          cases e10.symm.trans e
          obtain ⟨_, _, _, e, e14⟩ := hF 14 (by decide)
          cases e10.symm.trans e
          obtain ⟨B8, e15, g15, C8⟩ := hF 15 (by decide)
          obtain ⟨B9, e16, g16, C9⟩ := hF 16 (by decide)
          have x1 := stX_off (hXX 10 (by decide) 15 (by decide) (by decide)) (.inl rfl) e15 e10
          have x2 := stX_off (hXX 10 (by decide) 16 (by decide) (by decide)) (.inr rfl) e16 e10
          have x3 := stX_ne (hXX 15 (by decide) 16 (by decide) (by decide)) e15 e16
          simp only [Par.putAll_nil, Par.putAll_some, stSlots]
          simp only [e9, e10, e11, e12, e13, e14, e15, e16]
          clear hF hXX e9 e10 e11 e12 e13 e14 e15 e16 e
          obtain ⟨z0, z1, z2, z3, z4⟩ := C8.five
          have y0 := C8.f 0
          have y1 := C8.f 1
          have y2 := C8.f 2
          have y3 := C8.f 3
          have y4 := C8.f 4
          have hC8 := C8.st (.int .u64 dr) (.slice k6 n6 c6) (.slice p6 q6 r6) (.slice x6 y6 u6) (.bool dc)
          have hC9 := (((((C9.far (B := B8) (Ne.symm x3) 0 (.int .u64 dr)).far (B := B8) (Ne.symm x3) 1 (.slice k6 n6 c6)).far (B := B8) (Ne.symm x3) 2 (.slice p6 q6 r6)).far (B := B8) (Ne.symm x3) 3 (.slice x6 y6 u6)).far (B := B8) (Ne.symm x3) 4 (.bool dc))
          have hS6 := (((((SS.set S6 x1 0 (.int .u64 dr)).set x1 1 (.slice k6 n6 c6)).set x1 2 (.slice p6 q6 r6)).set x1 3 (.slice x6 y6 u6)).set x1 4 (.bool dc))
          have hE6 := (((((hS5.setCell g15 (.int .u64 dr) (o := 0)).setCell g15 (.slice k6 n6 c6) (o := 1)).setCell g15 (.slice p6 q6 r6) (o := 2)).setCell g15 (.slice x6 y6 u6) (o := 3)).setCell g15 (.bool dc) (o := 4))
          have HH := Lib.hid (And.intro hC8 (And.intro hC9 (And.intro hS6 hE6)))
          have HH2 := Lib.hid (And.intro hRd (And.intro O6 x2))
          clear hC8 hC9 hS6 hE6 C8 C9 S6 hS5 hRd O6 x1 x2 hR5 hHeld
          refine wpAnyH_ready (rs := [17]) (by kernel_rfl) (by simp) ?_
          refine AllReadyH.cons rfl (fun K hK => ?_) AllReadyH.nil
          go_simp
          refine hK.out _ _ HH.out.2.2.2 (fun hHeld => ?_)
          clear hK K z0 z1 z2 z3 z4 y0 y1 y2 y3 y4
          obtain ⟨hC8, hC9, hS6, hE6⟩ := HH.out
          clear HH hHeld
          generalize ((((w5.setCell ⟨B8, 0, none⟩ (.int .u64 dr)).setCell ⟨B8, 1, none⟩ (.slice k6 n6 c6)).setCell ⟨B8, 2, none⟩ (.slice p6 q6 r6)).setCell ⟨B8, 3, none⟩ (.slice x6 y6 u6)).setCell ⟨B8, 4, none⟩ (.bool dc) = w7 at hC8 hC9 hS6 hE6 ⊢
          obtain ⟨z0, z1⟩ := hC9.two
          have y0 := hC9.f 0
          have y1 := hC9.f 1
          have kC8 := ((hC8.far (B := B9) x3 0 (.int .i64 d2)).far (B := B9) x3 1 (.int .u64 d3))
          have kS6 := ((SS.set hS6 HH2.out.2.2 0 (.int .i64 d2)).set HH2.out.2.2 1 (.int .u64 d3))
          have kE6 := ((hE6.setCell g16 (.int .i64 d2) (o := 0)).setCell g16 (.int .u64 d3) (o := 1))
          have HH := Lib.hid (And.intro kC8 (And.intro kS6 kE6))
          clear kC8 kS6 kE6 hC8 hC9 hS6 hE6
          refine wpAnyH_ready (rs := [18]) (by kernel_rfl) (by simp) ?_
          refine AllReadyH.cons rfl (fun K hK => ?_) AllReadyH.nil
          go_simp
          refine hK.out _ _ HH.out.2.2 (fun hHeld => ?_)
          clear hK K z0 z1 y0 y1
          refine wpAnyH_take (i := 19) (v := .int .i64 0) rfl (by kernel_rfl) (by kernel_rfl) (by kernel_rfl) (fun _ _ _ h => h) (Or.inl ⟨by kernel_rfl, ?_⟩) (by assumption) ?_
          · intro w hE
            go_simp
          refine wpAnyH_done (by kernel_rfl) ?_ _
          obtain ⟨hC8, hS6, hE6⟩ := HH.out
          generalize (w7.setCell ⟨B9, 0, none⟩ (.int .i64 d2)).setCell ⟨B9, 1, none⟩ (.int .u64 d3) = w8 at hC8 hS6 hE6 ⊢
          clear HH hHeld
          go_wp2_with (fail)
          go_meet
          exact ⟨rfl, B8, rfl, ⟨dr, dk, dv, dt, dc⟩, ⟨k6, n6, c6⟩, ⟨p6, q6, r6⟩, ⟨x6, y6, u6⟩, HH2.out.1, hS6, HH2.out.2.1 _ hlt1, HH2.out.2.1 _ (by omega), hC8, ⟨⟨sr, sk, su, sw, scl⟩, ⟨ka4, kn4, kc4⟩, ⟨va4, vn4, vc4⟩, ⟨ta4, tn4, tc4⟩, HB.out.ext hE6⟩, HC.out.ext hE6, HD.out.ext hE6, HE.out.trans hE6⟩
      case rest =>
        clear c0 c1 c2 s0 s1 s2 s3 s4 cx2 cy2 cz2 HOp HDo hdo HS HB HC HD HE HR
        obtain ⟨rfl, B, rfl, ⟨dr, dk, dv, dt, dc⟩, ⟨k6, n6, c6⟩, ⟨p6, q6, r6⟩, ⟨x6, y6, u6⟩, hR, hS, hO, hO2, hb8, ⟨⟨er, ek, ev, et, ec⟩, ⟨k7, n7, c7⟩, ⟨p7, q7, r7⟩, ⟨x7, y7, u7⟩, hB⟩, hC, hD, hE⟩ := hcut
        obtain ⟨d0, d1, d2, d3, d4⟩ := hb8.five
        obtain ⟨s0, s1, s2, s3, s4⟩ := hB.five
        have f0 := hB.f 0
        have f1 := hB.f 1
        have f2 := hB.f 2
        have f3 := hB.f 3
        have f4 := hB.f 4
        have HN := Lib.hid (hB.st (.int .u64 dr) (.slice k6 n6 c6) (.slice p6 q6 r6) (.slice x6 y6 u6) (.bool dc))
        have HSx := Lib.hid (((((SS.set hS hO 0 (.int .u64 dr)).set hO 1 (.slice k6 n6 c6)).set hO 2 (.slice p6 q6 r6)).set hO 3 (.slice x6 y6 u6)).set hO 4 (.bool dc))
        have HCx := Lib.hid (((((hC.far (B := w1.heap.size) (by omega) 0 (.int .u64 dr)).far (B := w1.heap.size) (by omega) 1 (.slice k6 n6 c6)).far (B := w1.heap.size) (by omega) 2 (.slice p6 q6 r6)).far (B := w1.heap.size) (by omega) 3 (.slice x6 y6 u6)).far (B := w1.heap.size) (by omega) 4 (.bool dc))
        have HDx := Lib.hid (((((hD.far (B := w1.heap.size) (by omega) 0 (.int .u64 dr)).far (B := w1.heap.size) (by omega) 1 (.slice k6 n6 c6)).far (B := w1.heap.size) (by omega) 2 (.slice p6 q6 r6)).far (B := w1.heap.size) (by omega) 3 (.slice x6 y6 u6)).far (B := w1.heap.size) (by omega) 4 (.bool dc))
        have hw1 : w.heap.size ≤ w1.heap.size := by omega
        have HEx := Lib.hid (((((hE.setCell hw1 (.int .u64 dr) (o := 0)).setCell hw1 (.slice k6 n6 c6) (o := 1)).setCell hw1 (.slice p6 q6 r6) (o := 2)).setCell hw1 (.slice x6 y6 u6) (o := 3)).setCell hw1 (.bool dc) (o := 4))
        have HRx := Lib.hid hR
        have HO2 := Lib.hid hO2
        clear hS hO hO2 hb8 hB hC hD hE hR
        dsimp only [sc] at *
        go_wp2_with (fail)
        go_roundw
        case rel => first | exact ⟨i + 1, by go_num, by omega, ⟨dr, dk, dv, dt, dc⟩, ⟨k6, n6, c6⟩, ⟨p6, q6, r6⟩, ⟨x6, y6, u6⟩, HRx.out, HSx.out, HO2.out, HN.out, HCx.out, HDx.out, HEx.out⟩ | ((repeat apply Exists.intro); exact ⟨⟨i + 1, by go_num, by omega, ⟨dr, dk, dv, dt, dc⟩, ⟨k6, n6, c6⟩, ⟨p6, q6, r6⟩, ⟨x6, y6, u6⟩, HRx.out, HSx.out, HO2.out, HN.out, HCx.out, HDx.out, HEx.out⟩, rfl⟩)
        case measure => simp [intOf]; omega
    · have hBx := Lib.hid hB
      have hRx := Lib.hid (And.intro hR (And.intro hS hO))
      have hEx := Lib.hid hE
      have hDx := Lib.hid hD
      rcases (by omega : ¬ i < n ∨ (i < n ∧ ¬ i < 30)) with hx0 | ⟨hx0, hx1⟩
      all_goals
        obtain ⟨s0, s1, s2, s3, s4⟩ := hBx.out.five
        obtain ⟨d0, d1, d2, d3, d4⟩ : wr.cell? ⟨w.heap.size + 1, 0, none⟩ = some (.int .u64 0) ∧ wr.cell? ⟨w.heap.size + 1, 1, none⟩ = some (.slice none 0 0) ∧ wr.cell? ⟨w.heap.size + 1, 2, none⟩ = some (.slice none 0 0) ∧ wr.cell? ⟨w.heap.size + 1, 3, none⟩ = some (.slice none 0 0) ∧ wr.cell? ⟨w.heap.size + 1, 4, none⟩ = some (.bool false) := hDx.out.five
        have f0 := hDx.out.f 0
        have f1 := hDx.out.f 1
        have f2 := hDx.out.f 2
        have f3 := hDx.out.f 3
        have f4 := hDx.out.f 4
        clear hin hB hC hD hE hR hS hO
        dsimp only [sc] at *
        go_wp2_with (fail)
        obtain ⟨t0, t1, t2, t3, t4⟩ := (hDx.out.st (.int .u64 sr) (.slice ka4 kn4 kc4) (.slice va4 vn4 vc4) (.slice ta4 tn4 tc4) (.bool scl)).five
        refine bodyPost_ret (v := sv sr ⟨ka4, kn4, kc4⟩ ⟨va4, vn4, vc4⟩ ⟨ta4, tn4, tc4⟩ scl) (by simp [results, Tryz.results10, go_sem, t0, t1, t2, t3, t4]) rfl ?_
        refine ⟨⟨sr, sk, su, sw, scl⟩, hRx.out.1, ⟨ka4, kn4, kc4⟩, ⟨va4, vn4, vc4⟩, ⟨ta4, tn4, tc4⟩, rfl, ?_, ?_⟩
        · repeat (first | (with_reducible exact hRx.out.2.1) | (with_reducible refine SS.set ?_ hRx.out.2.2 _ _))
        · repeat (first | (with_reducible exact hEx.out) | (with_reducible refine Ext.setCell ?_ (by omega) _))

end Go.Proofs.YtdipddnnckfnmaaGreat.Law

