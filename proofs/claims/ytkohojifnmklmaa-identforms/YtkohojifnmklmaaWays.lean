/-
  A region that draws its order, none of whose operations writes over what was there, none of which calls: each operation by itself, whatever order is drawn.
  What an operation tells is said by a predicate that stays as memory grows; behind the region each slot holds what its predicate says. It speaks of no program.
-/
import Derived.Test.YtkohojifnmklmaaBName
import Derived.RegionTactic
import Derived.Orders
namespace Go.Proofs.Ytkohojifnmklmaa
open Go.ChangeShapes Go.WideShapes Go.ChangeAt Go.RowKit Go.Pin Go.PlainAid

/-- What stays as memory grows. -/
def Stays (p : Value → World → Prop) : Prop := ∀ v w w', p v w → Below w.heap.size w w' → p v w'
/-- The slot that operation i writes. -/
def dstW (ops : Array Oper) (i : Nat) : Option Nat := (ops[i]?).bind (·.dst)
/-- Does operation i wait for operation j, which writes slot d? -/
def depW (ops : Array Oper) (i j d : Nat) : Bool := ((ops[i]?).map fun o => o.after.any fun e => Region.binds .any e && e.on == j).getD false && dstW ops j == some d
/-- Does no operation write slot t? -/
def freeW (ops : Array Oper) (t : Nat) : Bool := (List.range ops.size).all fun i => dstW ops i != some t
/-- No guards; each waits for earlier ones alone; each writes a slot of its own below m. -/
def okW (ops : Array Oper) (m : Nat) : Bool :=
  (List.range ops.size).all fun i =>
    ((ops[i]?).map fun o => o.guard.isNone && o.after.all (fun e => decide (e.on < i)) && (o.dst.map fun d => decide (d < m)).getD false).getD false &&
    (List.range i).all fun j => dstW ops j != dstW ops i
/-- One operation, wherever what it waits for is done. -/
def StepO (P : Program) (ops : Array Oper) (V : List (Value → World → Prop)) (a0 : Act) (w0 : World) (i : Nat) (o : Oper) : Prop :=
  ∀ (ρ : Operand → Value) (w : World), (∀ c, ρ (.const c) = c) → Below w0.heap.size w0 w →
    (∀ j d, depW ops i j d = true → (V.getD j fun _ _ => True) (ρ (.tmp d)) w) → (∀ t, freeW ops t = true → ρ (.tmp t) = a0.tmps.getD t undef) →
    (∃ v w', (execOp ρ o).run P w = .ok (.value v) w' ∧ Below w.heap.size w w' ∧ (V.getD i fun _ _ => True) v w') ∨
    (∃ f args w1, (execOp ρ o).run P w = .ok (.enter f args) w1 ∧ Below w.heap.size w w1 ∧ Calls P f args w1 fun e w' => ∃ v, e = .returned v ∧ Below w1.heap.size w1 w' ∧ (V.getD i fun _ _ => True) v w')
def StepW (P : Program) (ops : Array Oper) (V : List (Value → World → Prop)) (a0 : Act) (w0 : World) (i : Nat) : Prop := ∀ o, ops[i]? = some o → StepO P ops V a0 w0 i o
/-- All from k on. -/
def StepsW (P : Program) (ops : Array Oper) (V : List (Value → World → Prop)) (a0 : Act) (w0 : World) (k : Nat) : Prop := ∀ i, k ≤ i → StepW P ops V a0 w0 i
theorem StepsW.nil {P : Program} {ops : Array Oper} {V : List (Value → World → Prop)} {a0 : Act} {w0 : World} {k : Nat} (h : ops.size ≤ k) : StepsW P ops V a0 w0 k := fun i hi o ho => by
  have := (Array.getElem?_eq_some_iff.1 ho).1
  omega
theorem StepsW.cons {P : Program} {ops : Array Oper} {V : List (Value → World → Prop)} {a0 : Act} {w0 : World} {k : Nat} {o : Oper} (ho : ops[k]? = some o) (h : StepO P ops V a0 w0 k o) (hs : StepsW P ops V a0 w0 (k + 1)) : StepsW P ops V a0 w0 k := fun i hi => by
  by_cases e : i = k
  · subst e
    intro o' ho'
    rw [ho] at ho'
    cases ho'
    exact h
  · exact hs i (by omega)
/-- The slots of operations written. -/
def putW (ops : Array Oper) (a0 : Act) (vs : List Value) : Act := (List.range ops.size).foldl (fun a i => a.put (dstW ops i) (vs.getD i undef)) a0
/-- The state on the way. -/
structure OnW (ops : Array Oper) (V : List (Value → World → Prop)) (a0 : Act) (w0 : World) (listed : Array Bool) (a : Act) (w : World) : Prop where
  dfs : a.defers = a0.defers
  size : a.tmps.size = a0.tmps.size
  len : listed.size = ops.size
  bel : Below w0.heap.size w0 w
  done : ∀ i d, dstW ops i = some d → listed.getD i false = true → (V.getD i fun _ _ => True) (a.tmps.getD d undef) w
  free : ∀ t, freeW ops t = true → a.tmps[t]? = a0.tmps[t]?

theorem ok_at {ops : Array Oper} {m i : Nat} {o : Oper} (h : okW ops m = true) (hi : ops[i]? = some o) :
    o.guard = none ∧ (∀ e ∈ o.after, e.on < i) ∧ ∃ d, o.dst = some d ∧ d < m ∧ ∀ j, j < i → dstW ops j ≠ some d := by
  have hl := (Array.getElem?_eq_some_iff.1 hi).1
  have h1 := List.all_eq_true.1 h i (List.mem_range.2 hl)
  simp only [hi, Option.map_some, Option.getD_some, Bool.and_eq_true] at h1
  obtain ⟨⟨⟨g, ha⟩, hd⟩, hj⟩ := h1
  refine ⟨by simpa using g, fun e he => ?_, ?_⟩
  · obtain ⟨k, hk, rfl⟩ := Array.mem_iff_getElem.1 he
    have := Array.all_eq_true.1 ha k hk
    simpa using this
  · cases hod : o.dst with
    | none => rw [hod] at hd; simp at hd
    | some d =>
      rw [hod] at hd
      refine ⟨d, rfl, by simpa using hd, fun j hjl e => ?_⟩
      have := List.all_eq_true.1 hj j (List.mem_range.2 hjl)
      rw [e] at this
      simp [dstW, hi, hod] at this
theorem ok_apart {ops : Array Oper} {m i j d : Nat} (h : okW ops m = true) (hi : dstW ops i = some d) (hj : dstW ops j = some d) : i = j := by
  have key : ∀ i j d, dstW ops i = some d → dstW ops j = some d → ¬ j < i := by
    intro i j d hi hj hl
    cases ho : ops[i]? with
    | none => simp [dstW, ho] at hi
    | some o =>
      obtain ⟨_, _, d', hd', _, hall⟩ := ok_at h ho
      have : dstW ops i = some d' := by simp [dstW, ho, hd']
      rw [hi] at this
      cases this
      exact hall j hl hj
  have h1 := key i j d hi hj
  have h2 := key j i d hj hi
  omega
theorem ready_iff {ops : Array Oper} {listed : Array Bool} {i : Nat} : i ∈ Region.ready .any ops listed ↔ ∃ o, ops[i]? = some o ∧ listed.getD i true = false ∧ ∀ e ∈ o.after, Region.binds .any e = true → listed.getD e.on false = true := by
  unfold Region.ready
  rw [List.mem_filter, List.mem_range]
  constructor
  · rintro ⟨h1, h2⟩
    refine ⟨ops[i], Array.getElem?_eq_getElem h1, ?_⟩
    rw [Array.getElem?_eq_getElem h1] at h2
    simp only [Option.map_some, Option.getD_some, Bool.and_eq_true, Bool.not_eq_true'] at h2
    refine ⟨h2.1, fun e he hb => ?_⟩
    obtain ⟨k, hk, rfl⟩ := Array.mem_iff_getElem.1 he
    have := Array.all_eq_true.1 h2.2 k hk
    simpa [hb] using this
  · rintro ⟨o, ho, h1, h2⟩
    refine ⟨(Array.getElem?_eq_some_iff.1 ho).1, ?_⟩
    rw [ho]
    simp only [Option.map_some, Option.getD_some, h1, Bool.not_false, Bool.true_and]
    rw [Array.all_eq_true]
    intro k hk
    by_cases hb : Region.binds .any o.after[k] = true
    · rw [h2 _ (Array.getElem_mem hk) hb]; simp
    · simp at hb; simp [hb]
/-- Where nothing is ready, all is done. -/
theorem ready_none {ops : Array Oper} {m : Nat} {listed : Array Bool} (h : okW ops m = true) (hl : listed.size = ops.size) (hr : Region.ready .any ops listed = []) : ∀ i, i < ops.size → listed.getD i false = true := by
  intro i
  induction i using Nat.strongRecOn with
  | _ i ih =>
    intro hi
    cases hc : listed.getD i false with
    | true => rfl
    | false =>
      exfalso
      have ho : ops[i]? = some ops[i] := Array.getElem?_eq_getElem hi
      obtain ⟨_, ha, _⟩ := ok_at h ho
      have hc' : listed.getD i true = false := by
        have : i < listed.size := by omega
        simp [this] at hc ⊢
        exact hc
      have : i ∈ Region.ready .any ops listed := ready_iff.2 ⟨_, ho, hc', fun e he _ => ih e.on (ha e he) (by have := ha e he; omega)⟩
      rw [hr] at this
      cases this
theorem free_not {ops : Array Oper} {t i : Nat} (h : freeW ops t = true) (hi : dstW ops i = some t) : False := by
  have hl : i < ops.size := by
    cases ho : ops[i]? with
    | none => simp [dstW, ho] at hi
    | some o => exact (Array.getElem?_eq_some_iff.1 ho).1
  have := List.all_eq_true.1 h i (List.mem_range.2 hl)
  rw [hi] at this
  simp at this
theorem not_free {ops : Array Oper} {t : Nat} (h : freeW ops t = false) : ∃ i, dstW ops i = some t := by
  unfold freeW at h
  rw [List.all_eq_false] at h
  obtain ⟨i, _, hi⟩ := h
  exact ⟨i, by simpa using hi⟩
theorem OnW.next {ops : Array Oper} {V : List (Value → World → Prop)} {a0 : Act} {w0 : World} {listed : Array Bool} {a : Act} {w : World} (hok : okW ops a0.tmps.size = true) (hV : ∀ p ∈ V, Stays p)
    (h : OnW ops V a0 w0 listed a w) {i : Nat} {o : Oper} (ho : ops[i]? = some o) {v : Value} {w' : World} (hb : Below w.heap.size w w') (hv : (V.getD i fun _ _ => True) v w') : OnW ops V a0 w0 (listed.setIfInBounds i true) (a.put o.dst v) w' := by
  obtain ⟨_, _, d, hd, hdm, _⟩ := ok_at hok ho
  have hdi : dstW ops i = some d := by simp [dstW, ho, hd]
  rw [hd]
  refine ⟨h.dfs, by simp [Act.put, h.size], by simp [h.len], bel_trans h.bel hb, fun j e he hj => ?_, fun t ht => ?_⟩
  · by_cases hji : j = i
    · subst hji
      rw [hdi] at he
      cases he
      have : d < a.tmps.size := by rw [h.size]; exact hdm
      simpa [Act.put, this] using hv
    · have hne : e ≠ d := fun e' => hji (ok_apart hok he (e' ▸ hdi))
      have hjl : listed.getD j false = true := by
        simp only [Array.getD_eq_getD_getElem?, Array.getElem?_setIfInBounds] at hj ⊢
        rwa [if_neg (fun e => hji e.symm)] at hj
      have h1 := h.done j e he hjl
      have e2 : (a.put (some d) v).tmps.getD e undef = a.tmps.getD e undef := by
        simp only [Act.put, Array.getD_eq_getD_getElem?, Array.getElem?_setIfInBounds]
        rw [if_neg (fun e' => hne e'.symm)]
      rw [e2]
      by_cases hjV : j < V.length
      · have hm : (V.getD j fun _ _ => True) ∈ V := by
          rw [List.getD_eq_getElem?_getD, List.getElem?_eq_getElem hjV]; exact List.getElem_mem hjV
        exact hV _ hm _ _ _ h1 hb
      · rw [List.getD_eq_getElem?_getD, List.getElem?_eq_none (by omega)]; trivial
  · have hne : t ≠ d := fun e => free_not ht (e ▸ hdi)
    simp only [Act.put, Array.getElem?_setIfInBounds]
    rw [if_neg (fun e' => hne e'.symm)]
    exact h.free t ht
/-- How many are left. -/
def leftW (ops : Array Oper) (listed : Array Bool) : Nat := (List.range ops.size).countP fun i => !listed.getD i false
theorem left_zero {ops : Array Oper} {listed : Array Bool} (h : leftW ops listed = 0) : ∀ i, i < ops.size → listed.getD i false = true := by
  intro i hi
  unfold leftW at h
  rw [List.countP_eq_zero] at h
  simpa using h i (List.mem_range.2 hi)
theorem countP_less {l : List Nat} {p q : Nat → Bool} {i : Nat} (hi : i ∈ l) (h1 : p i = true) (h2 : q i = false) (h : ∀ j, q j = true → p j = true) : l.countP q < l.countP p := by
  induction l with
  | nil => cases hi
  | cons x l ih =>
    have hle : l.countP q ≤ l.countP p := List.countP_mono_left fun j _ => h j
    rw [List.countP_cons, List.countP_cons]
    rcases List.mem_cons.1 hi with rfl | hi
    · rw [h1, h2]
      simp only [Bool.false_eq_true, if_false, if_true]
      omega
    · have h3 := ih hi
      cases hq : q x with
      | true => rw [h x hq]; simp; omega
      | false =>
        simp only [Bool.false_eq_true, if_false]
        omega
theorem left_next {ops : Array Oper} {listed : Array Bool} {i : Nat} (hi : i < ops.size) (hl : listed.size = ops.size) (h : listed.getD i false = false) : leftW ops (listed.setIfInBounds i true) < leftW ops listed := by
  refine countP_less (List.mem_range.2 hi) (by simp only [h, Bool.not_false]) ?_ fun j hj => ?_
  · have : i < listed.size := by omega
    simp [this]
  · by_cases e : i = j
    · subst e; simp only [h, Bool.not_false]
    · simp only [Array.getD_eq_getD_getElem?, Array.getElem?_setIfInBounds, if_neg e] at hj ⊢
      exact hj
/-- Whatever order is drawn. -/
theorem wpAny_way {P : Program} {ops : Array Oper} {Q : Exit → Act → World → Prop} {V : List (Value → World → Prop)} {a0 : Act} {w0 : World} (hok : okW ops a0.tmps.size = true) (hV : ∀ p ∈ V, Stays p)
    (hst : StepsW P ops V a0 w0 0) (fin : ∀ listed a w, (∀ i, i < ops.size → listed.getD i false = true) → OnW ops V a0 w0 listed a w → Q .normal a w) :
    ∀ (fuel : Nat) (listed : Array Bool) (a : Act) (w : World), leftW ops listed ≤ fuel → OnW ops V a0 w0 listed a w → wpAny P .any ops Q fuel listed a w := by
  intro fuel
  induction fuel with
  | zero =>
    intro listed a w hf h
    have hall := left_zero (Nat.le_zero.1 hf)
    refine ⟨?_, fin _ _ _ hall h⟩
    rw [List.eq_nil_iff_forall_not_mem]
    intro i hi
    obtain ⟨o, ho, h1, _⟩ := ready_iff.1 hi
    have hl := (Array.getElem?_eq_some_iff.1 ho).1
    have h2 := hall i hl
    have : i < listed.size := by rw [h.len]; exact hl
    simp [this] at h1 h2
    rw [h1] at h2
    cases h2
  | succ fuel ih =>
    intro listed a w hf h
    refine ⟨fun hr => fin _ _ _ (ready_none hok h.len hr) h, fun i hi => ?_⟩
    obtain ⟨o, ho, h1, h2⟩ := ready_iff.1 hi
    have hl := (Array.getElem?_eq_some_iff.1 ho).1
    have hu : listed.getD i false = false := by
      have : i < listed.size := by rw [h.len]; exact hl
      simp [this] at h1 ⊢
      exact h1
    obtain ⟨hg, _, d, hd, hdm, _⟩ := ok_at hok ho
    have hstep := hst i (Nat.zero_le _) o ho a.eval w (fun c => rfl) h.bel (fun j e hje => by
      unfold depW at hje
      rw [ho] at hje
      simp only [Option.map_some, Option.getD_some, Bool.and_eq_true, beq_iff_eq] at hje
      obtain ⟨hja, hjd⟩ := hje
      obtain ⟨k, hk, hkk⟩ := Array.any_eq_true.1 hja
      simp only [Bool.and_eq_true, beq_iff_eq] at hkk
      have hlj := h2 _ (Array.getElem_mem hk) hkk.1
      rw [hkk.2] at hlj
      exact h.done j e hjd hlj) (fun t ht => by
      show a.tmps.getD t undef = _
      rw [Array.getD_eq_getD_getElem?, Array.getD_eq_getD_getElem?, h.free t ht])
    unfold wpOp
    rw [ho]
    have hw : Region.wanted o (yielded ops a.tmps) = true := by unfold Region.wanted; rw [hg]
    simp only [hw, if_true]
    left
    unfold Oper.wp
    have hf' : leftW ops (listed.setIfInBounds i true) ≤ fuel := by have := left_next hl h.len hu; omega
    rcases hstep with ⟨v, w', hrun, hb, hv⟩ | ⟨f, args, w1, hrun, hb, hcall⟩
    · rw [hrun]
      show wpAny P .any ops Q fuel _ (a.put o.dst v) w'
      exact ih _ _ _ hf' (h.next hok hV ho hb hv)
    · rw [hrun]
      rw [Oper.upon_enter]
      refine hcall.mono ?_
      rintro e w' ⟨v, rfl, hb2, hv⟩
      exact ih _ _ _ hf' (h.next hok hV ho (bel_trans hb hb2) hv)

/-- The state at the end: the slots written one behind the other. -/
theorem put_size (a : Act) (x : Option Nat) (v : Value) : (a.put x v).tmps.size = a.tmps.size := by cases x <;> simp [Act.put]
theorem put_defers (a : Act) (x : Option Nat) (v : Value) : (a.put x v).defers = a.defers := by cases x <;> rfl
theorem fold_at (ops : Array Oper) (vs : List Value) (a0 : Act) (n : Nat) (hap : ∀ i j d, dstW ops i = some d → dstW ops j = some d → i = j) :
    ((List.range n).foldl (fun a i => a.put (dstW ops i) (vs.getD i undef)) a0).defers = a0.defers ∧
    ((List.range n).foldl (fun a i => a.put (dstW ops i) (vs.getD i undef)) a0).tmps.size = a0.tmps.size ∧
    (∀ i d, i < n → dstW ops i = some d → d < a0.tmps.size → ((List.range n).foldl (fun a i => a.put (dstW ops i) (vs.getD i undef)) a0).tmps[d]? = some (vs.getD i undef)) ∧
    (∀ t, (∀ i, i < n → dstW ops i ≠ some t) → ((List.range n).foldl (fun a i => a.put (dstW ops i) (vs.getD i undef)) a0).tmps[t]? = a0.tmps[t]?) := by
  induction n with
  | zero => exact ⟨rfl, rfl, fun i d hi => by omega, fun t _ => rfl⟩
  | succ n ih =>
    obtain ⟨h1, h2, h3, h4⟩ := ih
    rw [List.range_succ, List.foldl_append]
    simp only [List.foldl_cons, List.foldl_nil]
    generalize (List.range n).foldl (fun a i => a.put (dstW ops i) (vs.getD i undef)) a0 = A at *
    refine ⟨by rw [put_defers, h1], by rw [put_size, h2], fun i d hi hd hdm => ?_, fun t ht => ?_⟩
    · by_cases e : i = n
      · subst e
        rw [hd]
        have : d < A.tmps.size := by omega
        simp [Act.put, this]
      · have h5 := h3 i d (by omega) hd hdm
        cases hdn : dstW ops n with
        | none => exact h5
        | some d2 =>
          have hne : d2 ≠ d := fun e2 => e (hap i n d hd (e2 ▸ hdn))
          simp only [Act.put, Array.getElem?_setIfInBounds, if_neg hne]
          exact h5
    · have h5 := h4 t fun i hi => ht i (by omega)
      cases hdn : dstW ops n with
      | none => exact h5
      | some d2 =>
        have hne : d2 ≠ t := fun e2 => ht n (by omega) (e2 ▸ hdn)
        simp only [Act.put, Array.getElem?_setIfInBounds, if_neg hne]
        exact h5
theorem OnW.all {ops : Array Oper} {V : List (Value → World → Prop)} {a0 : Act} {w0 : World} {listed : Array Bool} {a : Act} {w : World} (hok : okW ops a0.tmps.size = true)
    (hall : ∀ i, i < ops.size → listed.getD i false = true) (h : OnW ops V a0 w0 listed a w) :
    ∃ vs : List Value, vs.length = ops.size ∧ (∀ i, i < ops.size → (V.getD i fun _ _ => True) (vs.getD i undef) w) ∧ a = putW ops a0 vs := by
  have hlen : ((List.range ops.size).map fun i => a.tmps.getD ((dstW ops i).getD 0) undef).length = ops.size := by simp
  have hap : ∀ i j d, dstW ops i = some d → dstW ops j = some d → i = j := fun i j d h1 h2 => ok_apart hok h1 h2
  have hat : ∀ i d, i < ops.size → dstW ops i = some d → ((List.range ops.size).map fun i => a.tmps.getD ((dstW ops i).getD 0) undef).getD i undef = a.tmps.getD d undef := by
    intro i d hi hd
    rw [List.getD_eq_getElem?_getD, List.getElem?_map, List.getElem?_range hi]
    simp [hd]
  have hdst : ∀ i, i < ops.size → ∃ d, dstW ops i = some d ∧ d < a0.tmps.size := by
    intro i hi
    obtain ⟨_, _, d, hd, hdm, _⟩ := ok_at hok (Array.getElem?_eq_getElem hi)
    exact ⟨d, by simp [dstW, Array.getElem?_eq_getElem hi, hd], hdm⟩
  refine ⟨_, hlen, fun i hi => ?_, ?_⟩
  · obtain ⟨d, hd, _⟩ := hdst i hi
    rw [hat i d hi hd]
    exact h.done i d hd (hall i hi)
  · obtain ⟨f1, f2, f3, f4⟩ := fold_at ops ((List.range ops.size).map fun i => a.tmps.getD ((dstW ops i).getD 0) undef) a0 ops.size hap
    unfold putW
    generalize (List.range ops.size).foldl (fun a_1 i => a_1.put (dstW ops i) (((List.range ops.size).map fun i => a.tmps.getD ((dstW ops i).getD 0) undef).getD i undef)) a0 = A at *
    have ht : a.tmps = A.tmps := by
      apply Array.ext_getElem?
      intro t
      cases hft : freeW ops t with
      | true =>
        rw [h.free t hft, f4 t fun i _ e => free_not hft e]
      | false =>
        obtain ⟨i, hi⟩ := not_free hft
        have hl : i < ops.size := by
          cases ho : ops[i]? with
          | none => simp [dstW, ho] at hi
          | some o => exact (Array.getElem?_eq_some_iff.1 ho).1
        obtain ⟨d, hd, hdm⟩ := hdst i hl
        rw [hi] at hd
        cases hd
        rw [f3 i t hl hi hdm, hat i t hl hi]
        have : t < a.tmps.size := by rw [h.size]; exact hdm
        simp [this]
    have hdf : a.defers = A.defers := by rw [h.dfs, f1]
    cases a; cases A
    simp only at ht hdf
    rw [ht, hdf]
/-- The same, one list beside the other. -/
def putL : List Oper → List Value → Act → Act
  | o :: os, v :: vs, a => putL os vs (a.put o.dst v)
  | _, _, a => a
theorem putL_snoc : ∀ (os : List Oper) (vs : List Value) (a : Act) (o : Oper) (v : Value), os.length = vs.length → putL (os ++ [o]) (vs ++ [v]) a = (putL os vs a).put o.dst v
  | [], [], _, _, _, _ => rfl
  | [], _ :: _, _, _, _, h => by simp at h
  | _ :: _, [], _, _, _, h => by simp at h
  | x :: os, y :: vs, a, o, v, h => by
    show putL (os ++ [o]) (vs ++ [v]) (a.put x.dst y) = (putL os vs (a.put x.dst y)).put o.dst v
    exact putL_snoc os vs _ o v (by simpa using h)
theorem putW_L (ops : Array Oper) (vs : List Value) (a0 : Act) (hl : vs.length = ops.size) : putW ops a0 vs = putL ops.toList vs a0 := by
  have key : ∀ n, n ≤ ops.size → (List.range n).foldl (fun a i => a.put (dstW ops i) (vs.getD i undef)) a0 = putL (ops.toList.take n) (vs.take n) a0 := by
    intro n
    induction n with
    | zero => intro _; rfl
    | succ n ih =>
      intro hn
      have h1 : n < ops.toList.length := by rw [Array.length_toList]; omega
      have h2 : n < vs.length := by omega
      rw [List.range_succ, List.foldl_append, ih (by omega), List.take_succ_eq_append_getElem h1, List.take_succ_eq_append_getElem h2, putL_snoc _ _ _ _ _ (by simp; omega)]
      have e1 : dstW ops n = (ops.toList[n]).dst := by
        have : n < ops.size := by omega
        simp [dstW, this]
      simp only [List.foldl_cons, List.foldl_nil]
      rw [e1, List.getD_eq_getElem?_getD, List.getElem?_eq_getElem h2]
      rfl
  have := key ops.size (Nat.le_refl _)
  rw [List.take_of_length_le (by simp), List.take_of_length_le (by omega)] at this
  exact this
/-- The rule. -/
theorem wp_region_way {P : Program} {ops : Array Oper} {Q : Exit → Act → World → Prop} {id : Nat} {a0 : Act} {w0 : World} (V : List (Value → World → Prop)) (hm : P.follows .mixedOrders = true) (hok : okW ops a0.tmps.size = true)
    (hV : ∀ p ∈ V, Stays p) (hst : StepsW P ops V a0 w0 0)
    (fin : ∀ (vs : List Value) (w : World), vs.length = ops.size → Below w0.heap.size w0 w → (∀ i, i < ops.size → (V.getD i fun _ _ => True) (vs.getD i undef) w) → ∀ A : Act, A = putL ops.toList vs a0 → Q .normal A w) :
    (Code.region id ops true).wp P Q a0 w0 := by
  refine wp_region_any hm ?_
  refine wpAny_way hok hV hst (fun listed a w hall h => ?_) _ _ _ _ ?_ ⟨rfl, rfl, by simp, (Below.refl w0.heap.size w0).drew, fun i d _ hi => ?_, fun t _ => rfl⟩
  · obtain ⟨vs, h1, h2, h3⟩ := h.all hok hall
    rw [h3]
    exact fin vs w h1 h.bel h2 _ (putW_L ops vs a0 h1)
  · unfold leftW
    have := List.countP_le_length (p := fun i => !(Array.replicate ops.size false).getD i false) (l := List.range ops.size)
    rwa [List.length_range] at this
  · exfalso
    rw [Array.getD_eq_getD_getElem?, Array.getElem?_replicate] at hi
    split at hi <;> simp at hi
end Go.Proofs.Ytkohojifnmklmaa
