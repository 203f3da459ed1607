/-
  Parts of a proof, one behind the other: Par. Each says its own conditions.
-/
import Derived.Deep.RegionHeld3
import Derived.Test.YtmonkcekkhfafaaGreatDoorProg

/- Par:
  A region whose operations may come up in any order, where some make memory and some are calls: one obligation for each of them, and one for what follows. No condition: a law of walks.
-/
namespace Go.Proofs.YtmonkcekkhfafaaGreatDoor.Par

section
variable {P : Program} {ops : Array Oper} {Q : Exit → Act → World → Prop} {md : Region.Mode} {S : World → Prop}

def dstOf (ops : Array Oper) (i : Nat) : Option Tmp := (ops[i]?).bind (·.dst)
/-- The values of those that are done, in their places. -/
def putAll (ds : Nat → Option Tmp) : List Nat → (Nat → Option Value) → Act → Act
  | [], _, a => a
  | i :: is, o, a => putAll ds is o (match o i with | some v => a.put (ds i) v | none => a)
def markAll : List Nat → (Nat → Bool) → Array Bool → Array Bool
  | [], _, l => l
  | i :: is, o, l => markAll is o (if o i then l.setIfInBounds i true else l)
def upd {α : Type} (f : Nat → α) (i : Nat) (x : α) : Nat → α := fun j => if j = i then x else f j

theorem putAll_nil {ds : Nat → Option Tmp} {o : Nat → Option Value} {a : Act} : putAll ds [] o a = a := rfl
theorem putAll_some {ds : Nat → Option Tmp} {vs : Nat → Value} {i : Nat} {is : List Nat} {a : Act} : putAll ds (i :: is) (fun j => some (vs j)) a = putAll ds is (fun j => some (vs j)) (a.put (ds i) (vs i)) := rfl
theorem putAll_put {ds : Nat → Option Tmp} {x : Option Tmp} {v : Value} {o : Nat → Option Value} : ∀ {is : List Nat} {a : Act}, (∀ j ∈ is, ∀ d, x = some d → ds j ≠ some d) → putAll ds is o (a.put x v) = (putAll ds is o a).put x v
  | [], _, _ => rfl
  | i :: is, a, h => by
    unfold putAll
    cases hi : o i with
    | none => exact putAll_put (fun j hj => h j (by simp [hj]))
    | some u =>
      simp only
      rw [Act.put_comm a v u (fun d hd => h i (by simp) d hd)]
      exact putAll_put (fun j hj => h j (by simp [hj]))
theorem putAll_congr {ds : Nat → Option Tmp} {o o' : Nat → Option Value} : ∀ {is : List Nat} {a : Act}, (∀ j ∈ is, o j = o' j) → putAll ds is o a = putAll ds is o' a
  | [], _, _ => rfl
  | i :: is, a, h => by
    unfold putAll
    rw [h i (by simp)]
    exact putAll_congr (fun j hj => h j (by simp [hj]))
theorem putAll_upd {ds : Nat → Option Tmp} {o : Nat → Option Value} {i : Nat} {v : Value} : ∀ {is : List Nat} {a : Act}, is.Nodup → (∀ j ∈ is, j ≠ i → ∀ d, ds i = some d → ds j ≠ some d) → i ∈ is → o i = none → putAll ds is (upd o i (some v)) a = (putAll ds is o a).put (ds i) v
  | [], _, _, _, h, _ => by cases h
  | j :: is, a, hn, hd, hi, ho => by
    have hn2 := List.nodup_cons.1 hn
    unfold putAll
    by_cases e : j = i
    · subst e
      rw [ho]
      simp only [upd, if_pos]
      rw [← putAll_put (fun k hk => hd k (by simp [hk]) (fun e => hn2.1 (e ▸ hk)))]
      exact putAll_congr (fun k hk => if_neg (fun (e : k = j) => hn2.1 (e ▸ hk)))
    · have hi' : i ∈ is := by
        rcases List.mem_cons.1 hi with e2 | h
        · exact absurd e2.symm e
        · exact h
      rw [show upd o i (some v) j = o j from if_neg e]
      exact putAll_upd hn2.2 (fun k hk => hd k (by simp [hk])) hi' ho
theorem putAll_size {ds : Nat → Option Tmp} {o : Nat → Option Value} : ∀ {is : List Nat} {a : Act}, (putAll ds is o a).tmps.size = a.tmps.size
  | [], _ => rfl
  | i :: is, a => by
    unfold putAll
    rw [putAll_size]
    cases o i with
    | none => rfl
    | some v => cases hd : ds i <;> simp [Act.put]
theorem putAll_no {ds : Nat → Option Tmp} {o : Nat → Option Value} {t : Tmp} : ∀ {is : List Nat} {a : Act}, (∀ j ∈ is, o j ≠ none → ds j ≠ some t) → (putAll ds is o a).tmps[t]? = a.tmps[t]?
  | [], _, _ => rfl
  | i :: is, a, h => by
    unfold putAll
    rw [putAll_no (fun j hj => h j (by simp [hj]))]
    cases ho : o i with
    | none => rfl
    | some v =>
      have := h i (by simp) (by rw [ho]; simp)
      cases hd : ds i with
      | none => rfl
      | some d =>
        have hne : d ≠ t := fun e => this (by rw [hd, e])
        simp [Act.put, Array.getElem?_setIfInBounds_ne hne]
theorem putAll_yes {ds : Nat → Option Tmp} {o : Nat → Option Value} {t : Tmp} {i : Nat} {v : Value} {is : List Nat} {a : Act} (hn : is.Nodup) (hd : ∀ j ∈ is, j ≠ i → ∀ d, ds i = some d → ds j ≠ some d) (hi : i ∈ is) (ht : ds i = some t) (ho : o i = some v) : (putAll ds is o a).tmps[t]? = if t < a.tmps.size then some v else none := by
  have e : o = upd (upd o i none) i (some v) := by
    funext j; unfold upd
    by_cases c : j = i
    · rw [if_pos c, c, ho]
    · rw [if_neg c, if_neg c]
  rw [e, putAll_upd hn hd hi (by simp [upd]), ht]
  simp only [Act.put]
  rw [Array.getElem?_setIfInBounds, if_pos rfl, putAll_size]

theorem markAll_set {x : Nat} {o : Nat → Bool} : ∀ {is : List Nat} {l : Array Bool}, x ∉ is → markAll is o (l.setIfInBounds x true) = (markAll is o l).setIfInBounds x true
  | [], _, _ => rfl
  | i :: is, l, h => by
    unfold markAll
    have h1 : x ≠ i := fun e => h (by simp [e])
    have h2 : x ∉ is := fun e => h (by simp [e])
    cases o i with
    | false => exact markAll_set h2
    | true =>
      simp only [if_true]
      rw [Array.setIfInBounds_comm _ _ h1]
      exact markAll_set h2
theorem markAll_congr {o o' : Nat → Bool} : ∀ {is : List Nat} {l : Array Bool}, (∀ j ∈ is, o j = o' j) → markAll is o l = markAll is o' l
  | [], _, _ => rfl
  | i :: is, l, h => by
    unfold markAll
    rw [h i (by simp)]
    exact markAll_congr (fun j hj => h j (by simp [hj]))
theorem markAll_upd {o : Nat → Bool} {i : Nat} : ∀ {is : List Nat} {l : Array Bool}, is.Nodup → i ∈ is → o i = false → markAll is (upd o i true) l = (markAll is o l).setIfInBounds i true
  | [], _, _, h, _ => by cases h
  | j :: is, l, hn, hi, ho => by
    have hn2 := List.nodup_cons.1 hn
    unfold markAll
    by_cases e : j = i
    · subst e
      rw [ho]
      simp only [upd, if_true, Bool.false_eq_true, if_false]
      rw [← markAll_set hn2.1]
      exact markAll_congr (fun k hk => if_neg (fun (e : k = j) => hn2.1 (e ▸ hk)))
    · have hi' : i ∈ is := by
        rcases List.mem_cons.1 hi with e2 | h
        · exact absurd e2.symm e
        · exact h
      rw [show upd o i true j = o j from if_neg e]
      exact markAll_upd hn2.2 hi' ho

/-- Two states in which an operation sees the same. -/
def Agree (ts : List Tmp) (a b : Act) : Prop := (a.tmps.size = b.tmps.size ∧ a.defers = b.defers) ∧ ∀ t ∈ ts, a.tmps[t]? = b.tmps[t]?
theorem putAll_defers {ds : Nat → Option Tmp} {o : Nat → Option Value} : ∀ {is : List Nat} {a : Act}, (putAll ds is o a).defers = a.defers
  | [], _ => rfl
  | i :: is, a => by
    unfold putAll
    rw [putAll_defers]
    cases o i with
    | none => rfl
    | some v => cases hd : ds i <;> simp [Act.put]
theorem Agree.exec {o : Oper} {a b : Act} (h : Agree (o.looksAt ops) a b) (hs : ∀ cs c, o.op ≠ .select cs c) : execOp b.eval o = execOp a.eval o :=
  execOp_congr o hs fun x hx => by
    cases x with
    | tmp t =>
      have := h.2 t (List.mem_append_left _ (List.mem_filterMap.2 ⟨.tmp t, by simpa using hx, rfl⟩))
      simp only [Act.eval, Array.getD_eq_getD_getElem?]
      rw [this]
    | _ => rfl
theorem Agree.wants {o : Oper} {a b : Act} (h : Agree (o.looksAt ops) a b) : Region.wanted o (yielded ops b.tmps) = Region.wanted o (yielded ops a.tmps) := by
  unfold Region.wanted
  cases hg : o.guard with
  | none => rfl
  | some gw =>
    obtain ⟨g, want⟩ := gw
    have hy : yielded ops b.tmps g = yielded ops a.tmps g := by
      unfold yielded
      cases ht : (ops[g]?).bind (·.dst) with
      | none => rfl
      | some t =>
        have := h.2 t (by simp [Oper.looksAt, hg, ht])
        simp only [Option.bind_some]
        rw [this]
    simp only [hy]

theorem put_inj {a : Act} {d : Tmp} {u v : Value} (hd : d < a.tmps.size) (h : a.put (some d) u = a.put (some d) v) : u = v := by
  have h1 : (a.put (some d) u).tmps[d]? = (a.put (some d) v).tmps[d]? := by rw [h]
  simp [Act.put, hd] at h1
  exact h1
theorem put_same {base a : Act} {x : Option Tmp} {u : Value} {T : Value → World → Prop} {w : World} (hd : ∀ d, x = some d → d < base.tmps.size) (h : ∃ v, base.put x u = base.put x v ∧ T v w) : ∃ v, a.put x u = a.put x v ∧ T v w := by
  obtain ⟨v, e, ht⟩ := h
  cases x with
  | none => exact ⟨v, rfl, ht⟩
  | some d =>
    have := put_inj (hd d rfl) e
    subst this
    exact ⟨u, rfl, ht⟩
/-- An operation does the same in a state in which it sees the same. -/
theorem wpOp_base {i : Nat} {oi : Oper} {base a : Act} {T : Value → World → Prop} {w : World} (hoi : ops[i]? = some oi) (hA : Agree (oi.looksAt ops) base a) (hs : ∀ cs c, oi.op ≠ .select cs c)
    (hd : ∀ d, oi.dst = some d → d < base.tmps.size) (hQ : ∀ c (x y : Array Value) (l : List Deferred) w, Q (.panic c) ⟨x, l⟩ w → Q (.panic c) ⟨y, l⟩ w)
    (h : wpOp P ops Q i (fun a' w' => ∃ v, a' = base.put oi.dst v ∧ T v w') base w) : wpOp P ops Q i (fun a' w' => ∃ v, a' = a.put oi.dst v ∧ T v w') a w := by
  have hQ2 : ∀ c w, Q (.panic c) base w → Q (.panic c) a w := fun c w h => by
    have hdf := hA.1.2
    obtain ⟨x, l⟩ := base
    obtain ⟨y, l2⟩ := a
    simp only at hdf
    subst hdf
    exact hQ c x y l w h
  unfold wpOp at *
  simp only [hoi] at *
  rw [hA.wants]
  split
  · rename_i hw
    simp only [hw, if_true] at h
    rcases h with h | ⟨hasks, hlets⟩
    case inr => exact .inr ⟨by unfold Oper.asks at *; rw [hA.exec hs]; exact hasks, hlets⟩
    refine .inl ?_
    unfold Oper.wp at *
    rw [hA.exec hs]
    generalize (execOp base.eval oi).run P w = r at *
    cases r with
    | ok n w' =>
      cases n <;> simp only [Oper.upon] at h ⊢
      case value u => exact put_same hd h
      case skip => exact put_same hd h
      case defer d =>
        obtain ⟨v, e, _⟩ := h
        exfalso
        have h1 := congrArg (fun x : Act => x.defers.length) e
        have h2 : ∀ (x : Act) (y : Option Tmp) (z : Value), (x.put y z).defers = x.defers := fun x y z => by cases y <;> rfl
        simp only [h2, List.length_cons] at h1
        omega
      case enter f args =>
        refine Calls.mono h fun e w'' he => ?_
        cases e with
        | returned u => exact put_same hd he
        | panicked c => exact hQ2 _ _ he
        | outgrown => exact he
      case row row args => exact Rows.mono h fun u w'' he => put_same hd he
    | halt x w' =>
      cases x <;> simp only [Oper.upon] at h ⊢
      case panic u => exact hQ2 _ _ h
  · rename_i hw
    simp only [hw] at h
    exact put_same hd h

/-- What a region's text has to say of the operations that are taken together. -/
def still (ops : Array Oper) (is : List Nat) (deps : Nat → List Nat) (ds : Nat → Option Tmp) (size : Nat) : Bool :=
  decide is.Nodup && is.all fun i => match ops[i]? with
    | none => false
    | some oi => (match oi.op with | .select .. => false | _ => true) && oi.dst == ds i && (oi.dst.all fun d => decide (d < size)) && decide (deps i).Nodup && ((deps i).all fun j => is.contains j) &&
      is.all fun j => j == i || ((match ds j with | some d => ds i != some d | none => true) && ((deps i).contains j || match ds j with | some d => !(oi.looksAt ops).contains d | none => true))
/-- Whatever order is picked, it is those alone that come up, each behind those that it waits for; one of 'pu' that may come up is taken first. -/
def only (md : Region.Mode) (ops : Array Oper) (is pu : List Nat) (deps : Nat → List Nat) : Nat → List Nat → Array Bool → Bool
  | 0, done, _ => is.all fun i => done.contains i
  | n + 1, done, l =>
    match pu.find? (fun i => (Region.ready md ops l).contains i) with
    | some i => is.contains i && !done.contains i && ((deps i).all fun j => done.contains j) && Region.free md ops l i && only md ops is pu deps n (i :: done) (l.setIfInBounds i true)
    | none => !(Region.ready md ops l).isEmpty && (Region.ready md ops l).all fun i => is.contains i && !pu.contains i && !done.contains i && ((deps i).all fun j => done.contains j) && only md ops is pu deps n (i :: done) (l.setIfInBounds i true)

theorem still_spec {is : List Nat} {deps : Nat → List Nat} {ds : Nat → Option Tmp} {size : Nat} (h : still ops is deps ds size = true) :
    is.Nodup ∧ ∀ i ∈ is, ∃ oi, ops[i]? = some oi ∧ (∀ cs c, oi.op ≠ .select cs c) ∧ oi.dst = ds i ∧ (∀ d, oi.dst = some d → d < size) ∧ (deps i).Nodup ∧ (∀ j ∈ deps i, j ∈ is) ∧
      ∀ j ∈ is, j ≠ i → (∀ d, ds j = some d → ds i ≠ some d) ∧ (j ∈ deps i ∨ ∀ d, ds j = some d → d ∉ oi.looksAt ops) := by
  unfold still at h
  rw [Bool.and_eq_true] at h
  refine ⟨of_decide_eq_true h.1, fun i hi => ?_⟩
  have h1 := List.all_eq_true.1 h.2 i hi
  cases ho : ops[i]? with
  | none => rw [ho] at h1; cases h1
  | some oi =>
    rw [ho] at h1
    simp only [Bool.and_eq_true] at h1
    obtain ⟨⟨⟨⟨⟨a1, a2⟩, a3⟩, a4⟩, a5⟩, a6⟩ := h1
    refine ⟨oi, rfl, fun cs c e => ?_, by simpa using a2, fun d hd => ?_, of_decide_eq_true a4, fun j hj => ?_, fun j hj hne => ?_⟩
    · rw [e] at a1; cases a1
    · rw [hd] at a3; simpa using a3
    · have := List.all_eq_true.1 a5 j hj; simpa using this
    · have := List.all_eq_true.1 a6 j hj
      simp only [Bool.or_eq_true, beq_iff_eq, hne, false_or, Bool.and_eq_true] at this
      refine ⟨fun d hd e => ?_, ?_⟩
      · have h2 := this.1; rw [hd] at h2; simp [e] at h2
      · rcases this.2 with h2 | h2
        · exact .inl (by simpa using h2)
        · exact .inr (fun d hd => by rw [hd] at h2; simpa using h2)

/-- The step is handed over behind a '∀ K'. -/
theorem step_of {i : Nat} {o : Oper} {K : Act → World → Prop} {a : Act} {w : World} (ho : ops[i]? = some o)
    (h : ∀ K' : Act → World → Prop, Shut (∀ a w, K a w → K' a w) → if Region.wanted o (yielded ops a.tmps) = true then Oper.wp P o a w K' Q else K' (a.put o.dst undef) w) : wpOp P ops Q i K a w :=
  wpOp_step ho h

/-- THE LAW: each operation's obligation is said in a state in which those that it waits for are done, in any world in which their facts hold. -/
theorem wpAnyH_par (is pu : List Nat) (deps : Nat → List Nat) (ds : Nat → Option Tmp) (F : Nat → (Nat → Value) → World → Prop) (X : Nat → Nat → (Nat → Value) → Prop) (R : World → World → Prop) {fuel N : Nat} {listed0 : Array Bool} {a0 : Act} {w0 : World} (hN : N = fuel + is.length)
    (hst : still ops is deps ds a0.tmps.size = true) (hns : Region.noSelect ops = true) (hchk : only md ops is pu deps is.length [] listed0 = true)
    (hQ : ∀ c (x y : Array Value) (l : List Deferred) w, Q (.panic c) ⟨x, l⟩ w → Q (.panic c) ⟨y, l⟩ w)
    (hr : ∀ w, R w w) (ht : ∀ u v w, R u v → R v w → R u w)
    (hloc : ∀ i vs vs' w, (∀ j, j = i ∨ j ∈ deps i → vs j = vs' j) → F i vs w → F i vs' w)
    (hstab : ∀ i vs w w', R w w' → F i vs w → F i vs w') (hX : ∀ i j vs vs', vs i = vs' i → vs j = vs' j → X i j vs → X i j vs') (hS : S w0)
    (pures : ∀ i ∈ pu, ∃ oi, ops[i]? = some oi ∧ ∀ (done : List Nat) vs w, i ∉ done → S w → R w0 w → (∀ j ∈ deps i, j ∈ done) → (∀ j ∈ done, F j vs w) → ∃ v, YieldsIf P ops S oi v (putAll ds (deps i) (fun j => some (vs j)) a0) ∧ F i (upd vs i v) w ∧ ∀ j ∈ done, X i j (upd vs i v))
    (steps : ∀ i ∈ is, i ∉ pu → ∀ (done : List Nat) vs w, i ∉ done → S w → R w0 w → (∀ j ∈ deps i, j ∈ done) → (∀ j ∈ done, F j vs w) → wpOp P ops Q i (fun a' w' => ∃ v, a' = (putAll ds (deps i) (fun j => some (vs j)) a0).put (ds i) v ∧ S w' ∧ R w w' ∧ F i (upd vs i v) w' ∧ ∀ j ∈ done, X i j (upd vs i v)) (putAll ds (deps i) (fun j => some (vs j)) a0) w)
    (final : ∀ vs w, S w → R w0 w → (∀ j ∈ is, F j vs w) → (∀ i ∈ is, ∀ j ∈ is, i ≠ j → X i j vs ∨ X j i vs) → wpAnyH P md ops Q S fuel (markAll is (fun _ => true) listed0) (putAll ds is (fun j => some (vs j)) a0) w) :
    wpAnyH P md ops Q S N listed0 a0 w0 := by
  subst hN
  obtain ⟨hnd, hall⟩ := still_spec hst
  have main : ∀ (n : Nat) (done : List Nat) (vs : Nat → Value) (w : World), only md ops is pu deps n done (markAll is (fun j => done.contains j) listed0) = true → S w → R w0 w → (∀ j ∈ done, j ∈ is) → (∀ j ∈ done, ∀ k ∈ deps j, k ∈ done) → (∀ j ∈ done, F j vs w) → (∀ i ∈ done, ∀ j ∈ done, i ≠ j → X i j vs ∨ X j i vs) →
      wpAnyH P md ops Q S (fuel + n) (markAll is (fun j => done.contains j) listed0) (putAll ds is (fun j => if done.contains j then some (vs j) else none) a0) w := by
    intro n
    induction n with
    | zero =>
      intro done vs w hc hS hR _ _ hF hXX
      have hd : ∀ j ∈ is, done.contains j = true := fun j hj => List.all_eq_true.1 hc j hj
      rw [markAll_congr (o' := fun _ => true) hd, putAll_congr (o' := fun j => some (vs j)) (fun j hj => if_pos (hd j hj))]
      exact final vs w hS hR (fun j hj => hF j (by simpa using hd j hj)) (fun i hi j hj => hXX i (by simpa using hd i hi) j (by simpa using hd j hj))
    | succ n ih =>
      intro done vs w hc hS hR hin hdeps hF hXX
      unfold only at hc
      -- what one more that is done leaves
      have next : ∀ i v w', i ∈ is → i ∉ done → (∀ j ∈ deps i, j ∈ done) → only md ops is pu deps n (i :: done) ((markAll is (fun j => done.contains j) listed0).setIfInBounds i true) = true → S w' → R w w' → F i (upd vs i v) w' → (∀ j ∈ done, X i j (upd vs i v)) →
          wpAnyH P md ops Q S (fuel + n) ((markAll is (fun j => done.contains j) listed0).setIfInBounds i true) ((putAll ds is (fun j => if done.contains j then some (vs j) else none) a0).put (ds i) v) w' := by
        intro i v w' hii hnd' hdd h4 hS' hR' hF' hX'
        obtain ⟨oi, hoi, hsel, hdst, hdsz, hndd, hdin, hap⟩ := hall i hii
        have em : (fun j => (i :: done).contains j) = upd (fun j => done.contains j) i true := by
          funext j; unfold upd
          by_cases c : j = i
          · rw [if_pos c, c]; simp
          · rw [if_neg c]; simp [c]
        have ep : (fun j => if (i :: done).contains j then some (upd vs i v j) else none) = upd (fun j => if done.contains j then some (vs j) else none) i (some v) := by
          funext j; unfold upd
          by_cases c : j = i
          · rw [if_pos c, if_pos c, c]; simp
          · rw [if_neg c, if_neg c]; simp [c]
        have huq : ∀ j ∈ is, j ≠ i → ∀ d, ds i = some d → ds j ≠ some d := fun j hj hji d hd e => (hap j hj hji).1 d e hd
        have hm := markAll_upd (o := fun j => done.contains j) (l := listed0) hnd hii (by simpa using hnd')
        have hp := putAll_upd (o := fun j => if done.contains j then some (vs j) else none) (v := v) (a := a0) hnd huq hii (if_neg (by simpa using hnd'))
        rw [← em] at hm
        rw [← ep] at hp
        rw [← hm, ← hp]
        refine ih (i :: done) (upd vs i v) w' (by rw [hm]; exact h4) hS' (ht _ _ _ hR hR') (fun j hj => ?_) (fun j hj k hk => ?_) (fun j hj => ?_) (fun j hj k hk hjk => ?_)
        · rcases List.mem_cons.1 hj with rfl | hj
          · exact hii
          · exact hin j hj
        · rcases List.mem_cons.1 hj with rfl | hj
          · exact List.mem_cons_of_mem _ (hdd k hk)
          · exact List.mem_cons_of_mem _ (hdeps j hj k hk)
        · rcases List.mem_cons.1 hj with rfl | hj
          · exact hF'
          · refine hloc j vs (upd vs i v) w' (fun k hk => ?_) (hstab j vs w w' hR' (hF j hj))
            unfold upd
            refine (if_neg (fun (e : k = i) => ?_)).symm
            rcases hk with e2 | hk
            · exact hnd' (e ▸ e2 ▸ hj)
            · exact hnd' (e ▸ hdeps j hj _ hk)
        · have up : ∀ k ∈ done, vs k = upd vs i v k := fun k hk => (if_neg (fun (e : k = i) => hnd' (e ▸ hk))).symm
          rcases List.mem_cons.1 hj with ej | hj
          · rcases List.mem_cons.1 hk with ek | hk
            · exact absurd (ej.trans ek.symm) hjk
            · rw [ej]; exact .inl (hX' k hk)
          · rcases List.mem_cons.1 hk with ek | hk
            · rw [ek]; exact .inr (hX' j hj)
            · rcases hXX j hj k hk hjk with h | h
              · exact .inl (hX _ _ _ _ (up j hj) (up k hk) h)
              · exact .inr (hX _ _ _ _ (up k hk) (up j hj) h)
      -- it sees the same where those alone are done that it waits for
      have same : ∀ i oi, i ∈ is → ops[i]? = some oi → i ∉ done → (∀ j ∈ deps i, j ∈ done) → Agree (oi.looksAt ops) (putAll ds (deps i) (fun j => some (vs j)) a0) (putAll ds is (fun j => if done.contains j then some (vs j) else none) a0) := by
        intro i oi hii hoi hnd' hdd
        obtain ⟨oi', hoi', hsel, hdst, hdsz, hndd, hdin, hap⟩ := hall i hii
        obtain rfl : oi' = oi := Option.some.inj (hoi'.symm.trans hoi)
        refine ⟨⟨by rw [putAll_size, putAll_size], by rw [putAll_defers, putAll_defers]⟩, fun t ht => ?_⟩
        by_cases hex : ∃ j, j ∈ deps i ∧ ds j = some t
        · obtain ⟨j, hj, hjt⟩ := hex
          have hji := hdin j hj
          have huniq : ∀ k ∈ is, k ≠ j → ∀ d, ds j = some d → ds k ≠ some d := fun k hk hkj d hd e => by
            obtain ⟨_, _, _, _, _, _, _, h⟩ := hall k hk
            exact (h j hji (Ne.symm hkj)).1 d hd e
          rw [putAll_yes hndd (fun k hk => huniq k (hdin k hk)) hj hjt rfl,
            putAll_yes (v := vs j) hnd huniq hji hjt (if_pos (by simpa using hdd j hj))]
        · have hno : ∀ j ∈ is, (fun j => if done.contains j then some (vs j) else none) j ≠ none → ds j ≠ some t := fun j hj hne e => by
            have hji : j ≠ i := fun e2 => by
              subst e2
              simp [hnd'] at hne
            rcases (hap j hj hji).2 with h | h
            · exact hex ⟨j, h, e⟩
            · exact h t e ht
          rw [putAll_no (fun j hj _ e => hex ⟨j, hj, e⟩), putAll_no hno]
      cases hp : pu.find? (fun i => (Region.ready md ops (markAll is (fun j => done.contains j) listed0)).contains i) with
      | some i =>
        rw [hp] at hc
        simp only [Bool.and_eq_true] at hc
        obtain ⟨⟨⟨⟨h1, h2⟩, h3⟩, h5⟩, h4⟩ := hc
        have hii : i ∈ is := by simpa using h1
        have hnd' : i ∉ done := by simpa using h2
        have hdd : ∀ j ∈ deps i, j ∈ done := fun j hj => by have := List.all_eq_true.1 h3 j hj; simpa using this
        have hpu : i ∈ pu := List.mem_of_find?_eq_some hp
        have hrd : (Region.ready md ops (markAll is (fun j => done.contains j) listed0)).contains i = true := List.find?_some hp
        obtain ⟨oi, hoi, hpure⟩ := pures i hpu
        obtain ⟨v, hy, hF', hX'⟩ := hpure done vs w hnd' hS hR hdd hF
        obtain ⟨oi', hoi', hsel, hdst, hdsz, hndd, hdin, hap⟩ := hall i hii
        obtain rfl : oi' = oi := Option.some.inj (hoi'.symm.trans hoi)
        have hA := same i oi' hii hoi hnd' hdd
        refine wpAnyH_first hoi (Region.noSelect_spec hns) (fun c a w h => ?_) (fuel + n) _ _ w (Region.free_spec hoi h5) (by simpa using hrd) (hy.of_same (hA.exec hsel) hA.wants) hS ?_
        · obtain ⟨x, l⟩ := a
          cases hd : oi'.dst with
          | none => rw [hd] at h; exact h
          | some d => rw [hd] at h; exact hQ c _ x l w h
        · rw [hdst]
          exact next i v w hii hnd' hdd h4 hS (hr w) hF' hX'
      | none =>
        rw [hp] at hc
        simp only [Bool.and_eq_true] at hc
        refine ⟨fun he => ?_, fun i hi => ?_⟩
        · rw [he] at hc; exact absurd hc.1 (by simp)
        · have h1 := List.all_eq_true.1 hc.2 i hi
          simp only [Bool.and_eq_true] at h1
          obtain ⟨⟨⟨⟨h1, h6⟩, h2⟩, h3⟩, h4⟩ := h1
          have hii : i ∈ is := by simpa using h1
          have hnd' : i ∉ done := by simpa using h2
          have hnpu : i ∉ pu := by simpa using h6
          have hdd : ∀ j ∈ deps i, j ∈ done := fun j hj => by have := List.all_eq_true.1 h3 j hj; simpa using this
          obtain ⟨oi, hoi, hsel, hdst, hdsz, hndd, hdin, hap⟩ := hall i hii
          have hst1 := steps i hii hnpu done vs w hnd' hS hR hdd hF
          rw [← hdst] at hst1
          have hst2 := wpOp_base hoi (same i oi hii hoi hnd' hdd) hsel (by rw [putAll_size]; exact hdsz) hQ hst1
          refine wpOp_mono (fun a' w' h => ?_) hst2
          obtain ⟨v, rfl, hS', hR', hF', hX'⟩ := h
          refine ⟨hS', ?_⟩
          rw [hdst]
          exact next i v w' hii hnd' hdd h4 hS' hR' hF' hX'
  have e0 : markAll is (fun j => ([] : List Nat).contains j) listed0 = listed0 := by
    clear main steps final hall hst hchk hnd
    induction is with
    | nil => rfl
    | cons i is ih => unfold markAll; simpa using ih
  have e1 : putAll ds is (fun j => if ([] : List Nat).contains j then some (undef : Value) else none) a0 = a0 := by
    clear main steps final hall hst hchk hnd e0
    induction is with
    | nil => rfl
    | cons i is ih => unfold putAll; simpa using ih
  have := main is.length [] (fun _ => undef) w0 (by rw [e0]; exact hchk) hS (hr _) (fun j hj => by cases hj) (fun j hj => by cases hj) (fun j hj => by cases hj) (fun j hj => by cases hj)
  rw [e0, e1] at this
  exact this

end
end Go.Proofs.YtmonkcekkhfafaaGreatDoor.Par

