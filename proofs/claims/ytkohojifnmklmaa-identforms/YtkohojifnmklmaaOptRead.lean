/-
  Plain: what bytes tell of options, asked once at the end.
-/
import Derived.Test.YtkohojifnmklmaaOptPure
namespace Go.Pin
open Go.PlainAid

/-- What bytes tell, whatever may be. -/
def getR (r : List UInt8) (acc : List Opn) : Option (List Opn) :=
  match r with
  | [] => some acc
  | c :: r =>
    if c = 0 then getR r acc else if c = 255 then some acc else
    match r with
    | [] => none
    | n :: r => if r.length < n.toNat then none else getR (r.drop n.toNat) (joinO acc c.toNat (r.take n.toNat))
termination_by r.length
decreasing_by all_goals simp <;> omega
theorem getR_nil (acc : List Opn) : getR [] acc = some acc := by rw [getR]
theorem getR_pad (r : List UInt8) (acc : List Opn) : getR (0 :: r) acc = getR r acc := by rw [getR.eq_def]; simp only [if_true]
theorem getR_end (r : List UInt8) (acc : List Opn) : getR (255 :: r) acc = some acc := by rw [getR.eq_def]; simp only [if_neg (show ¬ (255 : UInt8) = 0 by decide), if_true]
theorem getR_one {c : UInt8} (h0 : c ≠ 0) (h1 : c ≠ 255) (acc : List Opn) : getR [c] acc = none := by rw [getR.eq_def]; simp only [if_neg h0, if_neg h1]
theorem getR_short {c n : UInt8} {r : List UInt8} (h0 : c ≠ 0) (h1 : c ≠ 255) (h : r.length < n.toNat) (acc : List Opn) : getR (c :: n :: r) acc = none := by rw [getR.eq_def]; simp only [if_neg h0, if_neg h1, h, if_true]
theorem getR_part {c n : UInt8} {r : List UInt8} (h0 : c ≠ 0) (h1 : c ≠ 255) (h : ¬ r.length < n.toNat) (acc : List Opn) :
    getR (c :: n :: r) acc = getR (r.drop n.toNat) (joinO acc c.toNat (r.take n.toNat)) := by rw [getR.eq_def]; simp only [if_neg h0, if_neg h1, h, if_false]

/-- How long is the data of this code? -/
def lenO (os : List Opn) (c : Int) : Nat := ((findO os c).getD []).length
theorem find_other {os : List Opn} {c x : Int} (d : List UInt8) (h : x ≠ c) : findO (joinO os c d) x = findO os x := by
  induction os with
  | nil => simp [joinO, findO, Ne.symm h]
  | cons o r ih =>
    unfold joinO
    by_cases ho : o.1 = c
    · rw [if_pos ho]
      simp only [findO]
      rw [if_neg (Ne.symm h), if_neg (by rw [ho]; exact Ne.symm h)]
    · rw [if_neg ho]
      simp only [findO, ih]
theorem find_join (os : List Opn) (c : Int) (d : List UInt8) : findO (joinO os c d) c = some ((findO os c).getD [] ++ d) := by
  induction os with
  | nil => simp [joinO, findO]
  | cons o r ih =>
    unfold joinO
    by_cases ho : o.1 = c
    · rw [if_pos ho]; simp [findO, ho]
    · rw [if_neg ho]; simp only [findO, if_neg ho, ih]
theorem join_grows (os : List Opn) (c : Int) (d : List UInt8) : os.length ≤ (joinO os c d).length ∧ ∀ x, lenO os x ≤ lenO (joinO os c d) x := by
  constructor
  · cases hp : placeO os c with
    | none => rw [join_len_new hp]; omega
    | some j => rw [join_len_old hp]; exact Nat.le_refl _
  · intro x
    unfold lenO
    by_cases h : x = c
    · subst h; rw [find_join]; simp
    · rw [find_other d h]; exact Nat.le_refl _
/-- All data short, not too many. -/
def FitO (os : List Opn) : Prop := os.length ≤ 32 ∧ ∀ x, lenO os x ≤ 512
theorem room_fit {os : List Opn} {c : Int} {d : List UInt8} (h : FitO os) : roomO (joinO os c d) c = true ↔ FitO (joinO os c d) := by
  unfold roomO FitO
  rw [Bool.and_eq_true, decide_eq_true_eq, decide_eq_true_eq]
  refine ⟨fun ⟨h1, h2⟩ => ⟨h1, fun x => ?_⟩, fun ⟨h1, h2⟩ => ⟨h1, h2 c⟩⟩
  by_cases hx : x = c
  · subst hx; exact h2
  · unfold lenO; rw [find_other d hx]; exact h.2 x
theorem getR_grows (r : List UInt8) (acc os : List Opn) (h : getR r acc = some os) : acc.length ≤ os.length ∧ ∀ x, lenO acc x ≤ lenO os x := by
  induction hn : r.length using Nat.strongRecOn generalizing r acc with
  | _ n ih =>
    match r, h, hn with
    | [], h, _ => rw [getR_nil] at h; cases h; exact ⟨Nat.le_refl _, fun _ => Nat.le_refl _⟩
    | c :: r, h, hn =>
      by_cases h0 : c = 0
      · subst h0
        rw [getR_pad] at h
        exact ih r.length (by simp at hn; omega) r acc h rfl
      · by_cases h1 : c = 255
        · subst h1; rw [getR_end] at h; cases h; exact ⟨Nat.le_refl _, fun _ => Nat.le_refl _⟩
        · match r, h, hn with
          | [], h, _ => rw [getR_one h0 h1] at h; cases h
          | k :: r, h, hn =>
            by_cases h2 : r.length < k.toNat
            · rw [getR_short h0 h1 h2] at h; cases h
            · rw [getR_part h0 h1 h2] at h
              have := ih (r.drop k.toNat).length (by simp at hn ⊢; omega) _ _ h rfl
              have hg := join_grows acc c.toNat (r.take k.toNat)
              exact ⟨Nat.le_trans hg.1 this.1, fun x => Nat.le_trans (hg.2 x) (this.2 x)⟩
open Classical in
theorem getO_is (r : List UInt8) (acc : List Opn) (hf : FitO acc) : getO r acc = match getR r acc with | some os => if FitO os then some os else none | none => none := by
  induction hn : r.length using Nat.strongRecOn generalizing r acc with
  | _ n ih =>
    match r, hn with
    | [], _ => rw [getR_nil, getO_nil]; simp [hf]
    | c :: r, hn =>
      by_cases h0 : c = 0
      · subst h0
        rw [getR_pad, getO_pad]
        exact ih r.length (by simp at hn; omega) r acc hf rfl
      · by_cases h1 : c = 255
        · subst h1; rw [getR_end, getO_end]; simp [hf]
        · match r, hn with
          | [], _ => rw [getR_one h0 h1, getO_one h0 h1]
          | k :: r, hn =>
            by_cases h2 : r.length < k.toNat
            · rw [getR_short h0 h1 h2, getO_short h0 h1 h2]
            · rw [getR_part h0 h1 h2, getO_part h0 h1 h2]
              by_cases hr : FitO (joinO acc c.toNat (r.take k.toNat))
              · rw [if_pos ((room_fit hf).2 hr)]
                exact ih (r.drop k.toNat).length (by simp at hn ⊢; omega) _ _ hr rfl
              · rw [if_neg (fun e => hr ((room_fit hf).1 e))]
                cases hg : getR (r.drop k.toNat) (joinO acc c.toNat (r.take k.toNat)) with
                | none => rfl
                | some os =>
                  have hgr := getR_grows _ _ _ hg
                  simp only
                  rw [if_neg]
                  intro ⟨f1, f2⟩
                  exact hr ⟨Nat.le_trans hgr.1 f1, fun x => Nat.le_trans (hgr.2 x) (f2 x)⟩
/-- Codes that are no two alike, each one that may be. -/
def CodeO (os : List Opn) : Prop := (∀ o ∈ os, 0 < o.1 ∧ o.1 < 255) ∧ (os.map (·.1)).Nodup
theorem join_code {os : List Opn} {c : Int} {d : List UInt8} (h : CodeO os) (hc : 0 < c ∧ c < 255) : CodeO (joinO os c d) := by
  cases hp : placeO os c with
  | none =>
    rw [join_new hp]
    refine ⟨fun o ho => ?_, ?_⟩
    · rcases List.mem_append.1 ho with h1 | h1
      · exact h.1 o h1
      · simp only [List.mem_singleton] at h1; subst h1; exact hc
    · rw [List.map_append, List.nodup_append]
      refine ⟨h.2, by simp, fun a ha b hb => ?_⟩
      simp only [List.map_cons, List.map_nil, List.mem_singleton] at hb
      subst hb
      obtain ⟨o, ho, rfl⟩ := List.mem_map.1 ha
      exact place_none.1 hp o ho
  | some j =>
    have e : (joinO os c d).map (·.1) = os.map (·.1) := by rw [join_old hp, codes_set hp]
    refine ⟨fun o ho => ?_, by rw [e]; exact h.2⟩
    have : o.1 ∈ os.map (·.1) := by rw [← e]; exact List.mem_map.2 ⟨o, ho, rfl⟩
    obtain ⟨o', ho', he⟩ := List.mem_map.1 this
    rw [← he]; exact h.1 o' ho'
theorem find_mem {os : List Opn} (h : (os.map (·.1)).Nodup) {o : Opn} (ho : o ∈ os) : findO os o.1 = some o.2 := by
  induction os with
  | nil => cases ho
  | cons x r ih =>
    simp only [List.map_cons, List.nodup_cons] at h
    rcases List.mem_cons.1 ho with rfl | ho
    · simp [findO]
    · have : x.1 ≠ o.1 := fun e => h.1 (by rw [e]; exact List.mem_map.2 ⟨o, ho, rfl⟩)
      simp only [findO, if_neg this]
      exact ih h.2 ho
theorem find_some_mem {os : List Opn} {c : Int} {d : List UInt8} (h : findO os c = some d) : (c, d) ∈ os := by
  induction os with
  | nil => simp [findO] at h
  | cons x r ih =>
    unfold findO at h
    by_cases hx : x.1 = c
    · rw [if_pos hx] at h; cases h; subst hx; exact List.mem_cons_self
    · rw [if_neg hx] at h; exact List.mem_cons_of_mem _ (ih h)
theorem may_fit {os : List Opn} (h : CodeO os) : MayO os ↔ FitO os := by
  unfold MayO FitO
  constructor
  · rintro ⟨h1, h2, _⟩
    refine ⟨h1, fun x => ?_⟩
    unfold lenO
    cases hf : findO os x with
    | none => simp
    | some d => simp only [Option.getD_some]; exact ((okO_iff _).1 (h2 _ (find_some_mem hf))).2.2
  · rintro ⟨h1, h2⟩
    refine ⟨h1, fun o ho => ?_, h.2⟩
    rw [okO_iff]
    refine ⟨(h.1 o ho).1, (h.1 o ho).2, ?_⟩
    have := h2 o.1
    unfold lenO at this
    rw [find_mem h.2 ho] at this
    exact this
theorem getR_code (r : List UInt8) (acc os : List Opn) (hc : CodeO acc) (h : getR r acc = some os) : CodeO os := by
  induction hn : r.length using Nat.strongRecOn generalizing r acc with
  | _ n ih =>
    match r, h, hn with
    | [], h, _ => rw [getR_nil] at h; cases h; exact hc
    | c :: r, h, hn =>
      by_cases h0 : c = 0
      · subst h0
        rw [getR_pad] at h
        exact ih r.length (by simp at hn; omega) r acc hc h rfl
      · by_cases h1 : c = 255
        · subst h1; rw [getR_end] at h; cases h; exact hc
        · match r, h, hn with
          | [], h, _ => rw [getR_one h0 h1] at h; cases h
          | k :: r, h, hn =>
            by_cases h2 : r.length < k.toNat
            · rw [getR_short h0 h1 h2] at h; cases h
            · rw [getR_part h0 h1 h2] at h
              refine ih (r.drop k.toNat).length (by simp at hn ⊢; omega) _ _ (join_code hc ?_) h rfl
              have h4 : c.toNat ≠ 0 := fun e => h0 (UInt8.toNat_inj.1 (by simpa using e))
              have h5 : c.toNat ≠ 255 := fun e => h1 (UInt8.toNat_inj.1 (by simpa using e))
              have := c.toNat_lt
              omega
theorem code_nil : CodeO [] := ⟨by simp, by simp⟩
theorem fit_nil : FitO [] := ⟨by simp, fun x => by simp [lenO, findO]⟩
/-- The two readings answer alike. -/
theorem read_is (s : List UInt8) : getO s [] = match getR s [] with | some os => if mayO os then some os else none | none => none := by
  rw [getO_is s [] fit_nil]
  cases hg : getR s [] with
  | none => rfl
  | some os =>
    have hm := may_fit (getR_code s [] os code_nil hg)
    simp only
    by_cases hf : FitO os
    · rw [if_pos hf, if_pos (by simpa [mayO] using hm.2 hf)]
    · rw [if_neg hf, if_neg (by simpa [mayO] using fun e => hf (hm.1 e))]
end Go.Pin
