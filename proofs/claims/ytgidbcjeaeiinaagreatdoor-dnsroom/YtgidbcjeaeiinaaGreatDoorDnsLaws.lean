/-
  Plain facts for the laws of layer 5: what Put answers, by its bound.
-/
import Derived.Test.YtgidbcjeaeiinaaGreatDoorDnsTold
namespace Go.Proofs.YtgidbcjeaeiinaaGreatDoor
set_option maxRecDepth 100000
open Go.ChangeShapes Go.WideShapes Go.ChangeAt Go.RowKit Go.Pin Go.PlainAid

theorem putM_no {m : Msg} (h : mayM m = false) (k : Int) : putM m k = (⟨#[]⟩, 500) := by
  unfold putM; rw [h]; rfl
theorem putM_yes {m : Msg} (h : MayM m) {k : Int} (h0 : 12 ≤ k) (h1 : k ≤ 65535) : putM m k = if ((writtenM m).length : Int) ≤ k then (mk (writtenM m), 0) else if ((writtenM (cutM m)).length : Int) ≤ k then (mk (writtenM (cutM m)), 0) else (⟨#[]⟩, 501) := by
  unfold putM
  rw [(mayM_iff m).2 h, if_neg]
  simp; omega
theorem putM_max {m : Msg} (h : MayM m) : putM m 65535 = (mk (writtenM m), 0) := by
  have := (getM_written h).2.2
  rw [putM_yes h (by decide) (by decide), if_pos (by omega)]
theorem mk_toList_eq {a b : List UInt8} (h : a = b) : ((mk a).toList == (mk b).toList) = true := by subst h; simp
theorem mk_toList_ne {a b : List UInt8} (h : a ≠ b) : ((mk a).toList == (mk b).toList) = false := eq_no fun e => h (by have := congrArg bs e; rwa [bs_mk, bs_mk] at this)
/-- DnsRoom's five cases. -/
theorem room {m : Msg} (h : MayM m) {lo hi : Int} (h0 : 12 ≤ lo) (h1 : lo ≤ hi) (h2 : hi ≤ 65535) :
    ((putM m lo).2 = 0 ∧ ((putM m lo).1.toList == (mk (writtenM m)).toList) = true ∧ (putM m hi).2 = 0 ∧ ((putM m hi).1.toList == (mk (writtenM m)).toList) = true) ∨
    ((putM m lo).2 = 0 ∧ ((putM m lo).1.toList == (mk (writtenM m)).toList) = false ∧ (putM m hi).2 = 0 ∧ ((putM m hi).1.toList == (mk (writtenM m)).toList) = true) ∨
    ((putM m lo).2 = 0 ∧ ((putM m lo).1.toList == (mk (writtenM m)).toList) = false ∧ (putM m hi).2 = 0 ∧ ((putM m hi).1.toList == (mk (writtenM m)).toList) = false ∧ ((putM m hi).1.toList == (putM m lo).1.toList) = true) ∨
    ((putM m lo).2 = 501 ∧ (putM m hi).2 = 0) ∨ ((putM m lo).2 = 501 ∧ (putM m hi).2 = 501) := by
  rw [putM_yes h h0 (by omega), putM_yes h (by omega) h2]
  have hne : ∀ k : Int, ¬ ((writtenM m).length : Int) ≤ k → ((writtenM (cutM m)).length : Int) ≤ k → writtenM (cutM m) ≠ writtenM m := fun k h1 h2 e => by rw [e] at h2; exact h1 h2
  generalize writtenM (cutM m) = c at *
  generalize writtenM m = s at *
  by_cases a1 : (s.length : Int) ≤ lo
  · rw [if_pos a1, if_pos (by omega)]; exact .inl ⟨rfl, mk_toList_eq rfl, rfl, mk_toList_eq rfl⟩
  · rw [if_neg a1]
    by_cases a2 : (c.length : Int) ≤ lo
    · rw [if_pos a2]
      by_cases a3 : (s.length : Int) ≤ hi
      · rw [if_pos a3]; exact .inr (.inl ⟨rfl, mk_toList_ne (hne lo a1 a2), rfl, mk_toList_eq rfl⟩)
      · rw [if_neg a3, if_pos (by omega)]
        exact .inr (.inr (.inl ⟨rfl, mk_toList_ne (hne lo a1 a2), rfl, mk_toList_ne (hne lo a1 a2), mk_toList_eq rfl⟩))
    · rw [if_neg a2]
      by_cases a3 : (s.length : Int) ≤ hi
      · rw [if_pos a3]; exact .inr (.inr (.inr (.inl ⟨rfl, rfl⟩)))
      · rw [if_neg a3]
        by_cases a4 : (c.length : Int) ≤ hi
        · rw [if_pos a4]; exact .inr (.inr (.inr (.inl ⟨rfl, rfl⟩)))
        · rw [if_neg a4]; exact .inr (.inr (.inr (.inr ⟨rfl, rfl⟩)))
theorem num_two (s : ByteArray) (a : Nat) : num s a 2 = bt s a * 256 + bt s (a + 1) := by
  simp [num]
theorem written_head {m : Msg} (h : MayM m) : ∃ B, writtenM m = headM m ++ B := by
  obtain ⟨Q, X, Y, Z, h1, _⟩ := parts_told h
  exact ⟨Q ++ X ++ Y ++ Z ++ optL m.sz, by rw [h1]; simp only [List.append_assoc]⟩
/-- The head's numbers in what is put. -/
theorem heads {m : Msg} (h : MayM m) : num (mk (writtenM m)) 0 2 = m.id ∧ num (mk (writtenM m)) 2 2 = bitsM m ∧ num (mk (writtenM m)) 4 2 = m.qs.length ∧ num (mk (writtenM m)) 6 2 = m.an.length ∧ num (mk (writtenM m)) 8 2 = m.sv.length ∧ num (mk (writtenM m)) 10 2 = (m.ad.length + optN m.sz : Nat) := by
  obtain ⟨B, hB⟩ := written_head h
  rw [hB]; exact head_told h B

end Go.Proofs.YtgidbcjeaeiinaaGreatDoor
