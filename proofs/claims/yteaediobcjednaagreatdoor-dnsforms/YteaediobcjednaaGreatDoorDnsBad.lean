/-
  Plain facts for DnsForms: the messages that may not be, and where their lists lie.
-/
import Derived.Test.YteaediobcjednaaGreatDoorDnsMem
import Derived.Test.YteaediobcjednaaGreatDoorBDns
namespace Go.Proofs.YteaediobcjednaaGreatDoor
set_option maxRecDepth 100000
open Go.RowKit Go.Pin Go.PlainAid

abbrev RowM := Msg × Pl
def P0 : Pl := ⟨none, 0, none, 0, none, 0, none, 0⟩
def optR : Rec := ⟨⟨#[]⟩, 41, 0, 0, ⟨#[]⟩, ⟨#[]⟩, 0⟩
/-- The messages that may not be; the lists lie at a0 to a6. -/
def badM (d : Int) (a0 a1 a2 a3 a4 a5 a6 : Option Addr) : List RowM :=
  [(⟨-d, false, 0, false, false, false, 0, [], [], [], [], 0⟩, P0), (⟨65535 + d, false, 0, false, false, false, 0, [], [], [], [], 0⟩, P0),
   (⟨0, false, -d, false, false, false, 0, [], [], [], [], 0⟩, P0), (⟨0, false, 15 + d, false, false, false, 0, [], [], [], [], 0⟩, P0),
   (⟨0, false, 0, false, false, false, -d, [], [], [], [], 0⟩, P0), (⟨0, false, 0, false, false, false, 15 + d, [], [], [], [], 0⟩, P0),
   (⟨0, false, 0, false, false, false, 0, [], [], [], [], 511⟩, P0), (⟨0, false, 0, false, false, false, 0, [], [], [], [], -d⟩, P0), (⟨0, false, 0, false, false, false, 0, [], [], [], [], 65535 + d⟩, P0),
   (⟨0, false, 0, false, false, false, 0, List.replicate 5 ⟨⟨#[]⟩, 0⟩, [], [], [], 0⟩, { P0 with qa := a0, qc := 5 }), (⟨0, false, 0, false, false, false, 0, [⟨⟨#[65]⟩, 0⟩], [], [], [], 0⟩, { P0 with qa := a1, qc := 1 }),
   (⟨0, false, 0, false, false, false, 0, [⟨⟨#[]⟩, -d⟩], [], [], [], 0⟩, { P0 with qa := a2, qc := 1 }), (⟨0, false, 0, false, false, false, 0, [⟨⟨#[]⟩, 65535 + d⟩], [], [], [], 0⟩, { P0 with qa := a3, qc := 1 }),
   (⟨0, false, 0, false, false, false, 0, [], [zeroR], [], [], 0⟩, { P0 with aa := a4, ac := 1 }), (⟨0, false, 0, false, false, false, 0, [], [], [optR], [], 0⟩, { P0 with sa := a5, sc := 1 }), (⟨0, false, 0, false, false, false, 0, [], [], [], [zeroR], 0⟩, { P0 with da := a6, dc := 1 })]
theorem zeroR_no : mayR zeroR = false := by decide +kernel
theorem optR_no : mayR optR = false := by decide +kernel
theorem nameA_no : mayL [65] = false := by decide +kernel
theorem badM_no (d : Int) (a0 a1 a2 a3 a4 a5 a6 : Option Addr) (hd : 1 ≤ d ∧ d ≤ 1024) : ∀ r ∈ badM d a0 a1 a2 a3 a4 a5 a6, mayM r.1 = false := by
  intro r hr
  obtain ⟨h1, h2⟩ := hd
  have u1 : ∀ t, upB (-d) t = false := fun t => by simp [upB]; omega
  have u2 : upB (65535 + d) 65535 = false := by simp [upB]; omega
  have u3 : upB (15 + d) 15 = false := by simp [upB]; omega
  have z1 : maySz 511 = false := by decide
  have z2 : maySz (-d) = false := by simp [maySz]; omega
  have z3 : maySz (65535 + d) = false := by simp [maySz]; omega
  simp only [badM, List.mem_cons, List.not_mem_nil, or_false] at hr
  rcases hr with rfl | rfl | rfl | rfl | rfl | rfl | rfl | rfl | rfl | rfl | rfl | rfl | rfl | rfl | rfl | rfl
  all_goals simp [mayM, mayRs, mayQ, u1, u2, u3, z1, z2, z3, zeroR_no, optR_no, nameA_no, bs]
theorem badM_lies (w : World) (d : Int) (a0 a1 a2 a3 a4 a5 a6 : Option Addr) (q0 : QuesLie w a0 (List.replicate 5 ⟨⟨#[]⟩, 0⟩)) (q1 : QuesLie w a1 [⟨⟨#[65]⟩, 0⟩]) (q2 : QuesLie w a2 [⟨⟨#[]⟩, -d⟩]) (q3 : QuesLie w a3 [⟨⟨#[]⟩, 65535 + d⟩]) (r4 : RecsLie w a4 [zeroR]) (r5 : RecsLie w a5 [optR]) (r6 : RecsLie w a6 [zeroR]) :
    ∀ r ∈ badM d a0 a1 a2 a3 a4 a5 a6, MsgLies w r.1 r.2 := by
  intro r hr
  simp only [badM, List.mem_cons, List.not_mem_nil, or_false] at hr
  rcases hr with rfl | rfl | rfl | rfl | rfl | rfl | rfl | rfl | rfl | rfl | rfl | rfl | rfl | rfl | rfl | rfl
  all_goals exact ⟨by first | exact .inl rfl | assumption, by first | exact .inl rfl | assumption, by first | exact .inl rfl | assumption, by first | exact .inl rfl | assumption⟩
theorem badM_fits (d : Int) (a0 a1 a2 a3 a4 a5 a6 : Option Addr) : ∀ r ∈ badM d a0 a1 a2 a3 a4 a5 a6, MsgFits r.1 := by
  intro r hr
  have e0 : (⟨#[]⟩ : ByteArray).size ≤ maxLen := Nat.zero_le _
  have e1 : (⟨#[65]⟩ : ByteArray).size ≤ maxLen := by decide
  have er : IsRec zeroR := ⟨e0, e0, e0⟩
  have eo : IsRec optR := ⟨e0, e0, e0⟩
  have l5 : (List.replicate 5 (⟨⟨#[]⟩, 0⟩ : Qn)).length ≤ maxLen := by rw [List.length_replicate]; decide
  have q5 : ∀ q ∈ List.replicate 5 (⟨⟨#[]⟩, 0⟩ : Qn), q.n.size ≤ maxLen := fun q hq => by rw [(List.mem_replicate.1 hq).2]; exact e0
  simp only [badM, List.mem_cons, List.not_mem_nil, or_false] at hr
  rcases hr with rfl | rfl | rfl | rfl | rfl | rfl | rfl | rfl | rfl | rfl | rfl | rfl | rfl | rfl | rfl | rfl
  all_goals refine ⟨?_, ?_, ?_, ?_, ?_, ?_, ?_, ?_⟩
  all_goals first | assumption | exact Nat.zero_le _ | (intro q hq; cases hq; done) | (show 1 ≤ maxLen; decide) | (intro q hq; rw [List.mem_singleton] at hq; subst hq; assumption)
theorem flat_12m : ∀ (l : List RowM) (I : Nat) (r : RowM) (j : Nat), l[I]? = some r → j < 12 → (l.flatMap fun r => (cellsM r.1 r.2).toList)[I * 12 + j]? = (cellsM r.1 r.2)[j]?
  | [], _, _, _, h, _ => by simp at h
  | a :: l, 0, r, j, h, hj => by
    simp only [List.getElem?_cons_zero, Option.some.injEq] at h
    subst h
    rw [List.flatMap_cons, Nat.zero_mul, Nat.zero_add, List.getElem?_append_left (by simp [cellsM]; omega), Array.getElem?_toList]
  | a :: l, I + 1, r, j, h, hj => by
    simp only [List.getElem?_cons_succ] at h
    rw [List.flatMap_cons, List.getElem?_append_right (by simp [cellsM]; omega)]
    have : (I + 1) * 12 + j - (cellsM a.1 a.2).toList.length = I * 12 + j := by simp [cellsM]; omega
    rw [this]
    exact flat_12m l I r j h hj
theorem flat_2 : ∀ (l : List Qn) (I : Nat) (r : Qn) (j : Nat), l[I]? = some r → j < 2 → (l.flatMap cellsQ)[I * 2 + j]? = (cellsQ r)[j]?
  | [], _, _, _, h, _ => by simp at h
  | a :: l, 0, r, j, h, hj => by
    simp only [List.getElem?_cons_zero, Option.some.injEq] at h
    subst h
    rw [List.flatMap_cons, Nat.zero_mul, Nat.zero_add, List.getElem?_append_left (by simp [cellsQ]; omega)]
  | a :: l, I + 1, r, j, h, hj => by
    simp only [List.getElem?_cons_succ] at h
    rw [List.flatMap_cons, List.getElem?_append_right (by simp [cellsQ]; omega)]
    have : (I + 1) * 2 + j - (cellsQ a).length = I * 2 + j := by simp [cellsQ]; omega
    rw [this]
    exact flat_2 l I r j h hj
/-- Questions, records written out. -/
theorem ques_lit (w : World) (cs : Array Value) (t : TypeId) (qs : List Qn) (h : cs = (qs.flatMap cellsQ).toArray) : QuesLie (w.alloc (.cells cs t)) (some ⟨w.heap.size, 0, none⟩) qs := by
  subst h
  refine .inr ⟨_, rfl, fun j q hj => ?_⟩
  rw [addr_add, Nat.zero_add]
  refine ⟨new_cell w _ _ _ _ ?_, new_cell w _ _ _ _ ?_⟩
  · rw [List.getElem?_toArray]; exact flat_2 qs j q 0 hj (by omega)
  · rw [List.getElem?_toArray]; exact flat_2 qs j q 1 hj (by omega)
theorem recs_lit (w : World) (cs : Array Value) (t : TypeId) (rs : List Rec) (h : cs = (rs.flatMap cellsR).toArray) : RecsLie (w.alloc (.cells cs t)) (some ⟨w.heap.size, 0, none⟩) rs := by
  subst h
  refine .inr ⟨_, rfl, fun j r hj => from_recs fun k hk => ?_⟩
  rw [addr_add, Nat.zero_add]
  have hf := flat_at rs j r k hj hk
  cases hv : (cellsR r)[k]? with
  | none => rw [List.getElem?_eq_none_iff] at hv; simp [cellsR] at hv; omega
  | some v =>
    rw [hv] at hf
    exact new_cell w _ _ _ _ (by rw [List.getElem?_toArray]; exact hf)
end Go.Proofs.YteaediobcjednaaGreatDoor
