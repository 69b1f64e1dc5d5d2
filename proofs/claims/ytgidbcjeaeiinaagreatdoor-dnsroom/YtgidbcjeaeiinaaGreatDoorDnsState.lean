/-
  Plain facts on how a message is put, part by part: every state on the way.
-/
import Derived.Test.YtgidbcjeaeiinaaGreatDoorDnsTold
namespace Go.Proofs.YtgidbcjeaeiinaaGreatDoor
set_option maxRecDepth 100000
open Go.ChangeShapes Go.WideShapes Go.ChangeAt Go.RowKit Go.Pin Go.PlainAid

/-- What every state keeps to. -/
structure OkS (s : Sofar) : Prop where
  good : Go.Pin.Good s.1 s.2
  len : s.1.length ≤ 59000
  kl : s.2.length ≤ 100000
theorem mayL_len {n : List UInt8} (h : mayL n = true) : n.length ≤ 72 := by
  have h1 := join_len (labsL n) (fun x hx => labsL_ok hx)
  have h2 := labsL_len n
  rw [join_labs h] at h1
  omega
theorem OkS.each {s : Sofar} (h : OkS s) : ∀ k ∈ s.2, k.1.length ≤ maxLen := fun k hk => by
  have := (h.good k hk).1
  simp only [knownL, Bool.and_eq_true] at this
  have := mayL_len this.1.1.2
  unfold maxLen; omega
theorem OkS.fine {s : Sofar} (h : OkS s) : Fine ⟨s.1, s.2, false⟩ 59000 100000 := ⟨h.len, h.kl, h.each⟩
theorem OkS.mayPut {s : Sofar} (h : OkS s) {n : List UInt8} (hn : mayL n = true) : mayPutL (s.1.length : Nat) s.2 n = true := by
  have h1 := h.len
  simp only [mayPutL, hn, good_all h.good, Bool.and_true, Bool.and_eq_true, decide_eq_true_eq]; omega

/-- How a question, a record, an OPT turn the state. -/
def quesW (q : Qn) (x : Wt) : Wt := numW 1 2 (numW q.ty 2 (nameW 0 (bs q.n) x))
def recW (r : Rec) (x : Wt) : Wt := if x.rf then x else match putL (0 + (x.P.length : Nat)) x.ks r with | none => { x with rf := true } | some (P, ks) => ⟨x.P ++ P, ks, false⟩
def optW (z : Int) (x : Wt) : Wt := numW 0 2 (numW 0 4 (numW z 2 (numW 41 2 (nameW 0 [] x))))
theorem quesW_is {s : Sofar} (h : OkS s) {q : Qn} (hq : mayQ q = true) : quesW q ⟨s.1, s.2, false⟩ = ⟨(putQ s q).1, (putQ s q).2, false⟩ := by
  simp only [mayQ, Bool.and_eq_true] at hq
  have := h.mayPut hq.1
  simp [quesW, nameW, numW, textW, this, putQ]
theorem recW_is {s : Sofar} (h : OkS s) {r : Rec} (hr : mayR r = true) : recW r ⟨s.1, s.2, false⟩ = ⟨(putR1 s r).1, (putR1 s r).2, false⟩ := by
  obtain ⟨P, ks', hp⟩ := putL_some h.good (by have := h.len; omega) hr
  simp [recW, putR1, hp]
theorem optW_is {s : Sofar} (h : OkS s) {z : Int} (hz : 0 < z) : ∃ ks, optW z ⟨s.1, s.2, false⟩ = ⟨s.1 ++ optL z, ks, false⟩ := by
  have := h.mayPut mayL_nil
  refine ⟨s.2 ++ putN s.2 (0 + s.1.length : Int) (labsL []), ?_⟩
  simp only [optW, nameW, numW, textW, Bool.false_eq_true, if_false, Int.zero_add, this, if_true, optL, if_pos hz]
  congr 1
  simp [labsL_nil, putS]

def stQ (m : Msg) (j : Nat) : Sofar := (m.qs.take j).foldl putQ (headM m, [])
def stR (m : Msg) (j : Nat) : Sofar := ((m.an ++ m.sv ++ m.ad).take j).foldl putR1 (quesM m)
theorem stQ_len (m : Msg) : stQ m m.qs.length = quesM m := by simp [stQ, quesM]
theorem stR_zero (m : Msg) : stR m 0 = quesM m := by simp [stR]
theorem stR_len (m : Msg) : stR m (m.an.length + m.sv.length + m.ad.length) = bodyM m := by
  have : m.an.length + m.sv.length + m.ad.length = (m.an ++ m.sv ++ m.ad).length := by simp; omega
  rw [stR, this, List.take_length, bodyM]
theorem stQ_next {m : Msg} {j : Nat} {q : Qn} (h : m.qs[j]? = some q) : stQ m (j + 1) = putQ (stQ m j) q := by
  have : m.qs.take (j + 1) = m.qs.take j ++ [q] := by rw [List.take_add_one, h]; rfl
  simp [stQ, this]
theorem stR_next {m : Msg} {j : Nat} {r : Rec} (h : (m.an ++ m.sv ++ m.ad)[j]? = some r) : stR m (j + 1) = putR1 (stR m j) r := by
  have : (m.an ++ m.sv ++ m.ad).take (j + 1) = (m.an ++ m.sv ++ m.ad).take j ++ [r] := by rw [List.take_add_one, h]; rfl
  rw [stR, this, List.foldl_append]; rfl
theorem ques_kl : ∀ (qs : List Qn) (s : Sofar), (qs.foldl putQ s).2.length ≤ s.2.length + 8 * qs.length
  | [], s => by simp
  | q :: qs, s => by
    have h := ques_kl qs (putQ s q)
    have l1 := putN_len s.2 (labsL (bs q.n)) (s.1.length : Nat)
    have l2 := labsL_len (bs q.n)
    have : (putQ s q).2.length ≤ s.2.length + 8 := by simp only [putQ, List.length_append]; omega
    rw [List.foldl_cons, List.length_cons]; omega
theorem recs_kl : ∀ (rs : List Rec) (s : Sofar), (rs.foldl putR1 s).2.length ≤ s.2.length + 24 * rs.length
  | [], s => by simp
  | r :: rs, s => by
    have h := recs_kl rs (putR1 s r)
    have : (putR1 s r).2.length ≤ s.2.length + 24 := by
      unfold putR1
      split
      · omega
      · rename_i P ks' hp
        exact (putL_len hp).2.2.1
    rw [List.foldl_cons, List.length_cons]; omega
theorem stQ_ok {m : Msg} (h : MayM m) (j : Nat) : OkS (stQ m j) := by
  have hql := h.ql
  have hl := headM_len m
  have hj : (m.qs.take j).length ≤ 4 := by rw [List.length_take]; omega
  obtain ⟨Q, K, q1, q2, _⟩ := ques_told (m.qs.take j) (headM m) [] [] (fun q hq => h.qs q (List.mem_of_mem_take hq)) (fun k hk => by cases hk)
  have l1 := ques_len (m.qs.take j) (headM m, [])
  have l2 := ques_kl (m.qs.take j) (headM m, [])
  simp only [hl, List.length_nil] at l1 l2
  refine ⟨?_, ?_, ?_⟩
  · unfold stQ; rw [q1]; exact q2
  · unfold stQ; omega
  · unfold stQ; omega
theorem mem_all {m : Msg} (h : MayM m) {r : Rec} (hr : r ∈ m.an ++ m.sv ++ m.ad) : mayR r = true := by
  rcases List.mem_append.1 hr with hr | hr
  · rcases List.mem_append.1 hr with hr | hr
    · exact h.an r hr
    · exact h.sv r hr
  · exact h.ad r hr
theorem stR_ok {m : Msg} (h : MayM m) (j : Nat) : OkS (stR m j) := by
  have hql := h.ql
  have ha := h.anl
  have hs := h.svl
  have hd := h.adl
  have hl := headM_len m
  have o := stQ_ok h m.qs.length
  rw [stQ_len] at o
  have l1 := ques_len m.qs (headM m, [])
  have l2 := ques_kl m.qs (headM m, [])
  simp only [hl, List.length_nil] at l1 l2
  have hj : ((m.an ++ m.sv ++ m.ad).take j).length ≤ 96 := by rw [List.length_take]; simp only [List.length_append]; omega
  have lq : (quesM m).1.length ≤ 412 := by unfold quesM; omega
  have lk : (quesM m).2.length ≤ 32 := by unfold quesM; omega
  obtain ⟨S, K, r1, r2, r3, _⟩ := recs_told ((m.an ++ m.sv ++ m.ad).take j) (quesM m).1 (quesM m).2 (fun r hr => mem_all h (List.mem_of_mem_take hr)) o.good (by omega)
  have l3 := recs_kl ((m.an ++ m.sv ++ m.ad).take j) (quesM m)
  refine ⟨?_, ?_, ?_⟩
  · unfold stR; rw [show quesM m = ((quesM m).1, (quesM m).2) from rfl, r1]; exact r2
  · unfold stR; rw [show quesM m = ((quesM m).1, (quesM m).2) from rfl, r1, List.length_append]; omega
  · unfold stR; omega
theorem all_an {m : Msg} {i : Nat} {r : Rec} (h : m.an[i]? = some r) : (m.an ++ m.sv ++ m.ad)[i]? = some r := by
  have := (List.getElem?_eq_some_iff.1 h).1
  rw [List.append_assoc, List.getElem?_append_left this]; exact h
theorem all_sv {m : Msg} {i : Nat} {r : Rec} (h : m.sv[i]? = some r) : (m.an ++ m.sv ++ m.ad)[m.an.length + i]? = some r := by
  have := (List.getElem?_eq_some_iff.1 h).1
  rw [List.append_assoc, List.getElem?_append_right (by omega), Nat.add_sub_cancel_left, List.getElem?_append_left this]; exact h
theorem all_ad {m : Msg} {i : Nat} {r : Rec} (h : m.ad[i]? = some r) : (m.an ++ m.sv ++ m.ad)[m.an.length + m.sv.length + i]? = some r := by
  rw [List.getElem?_append_right (by simp), List.length_append, Nat.add_sub_cancel_left]; exact h
theorem written_is (m : Msg) : writtenM m = (stR m (m.an.length + m.sv.length + m.ad.length)).1 ++ optL m.sz := by rw [stR_len]; rfl

end Go.Proofs.YtgidbcjeaeiinaaGreatDoor
