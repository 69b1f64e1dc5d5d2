/-
  Plain lemmas on names and their labels, for the laws that join labels again.
-/
import Derived.Test.YtlnkpgmflaekoaaNameIs
namespace Go.Proofs.Ytlnkpgmflaekoaa
open Go.ChangeShapes Go.WideShapes Go.ChangeAt Go.RowKit Go.Pin Go.PlainAid

theorem mk_append (a b : List UInt8) : mk a ++ mk b = mk (a ++ b) := by
  apply bs_inj
  simp [bs, mk]
theorem join_snoc (a : List (List UInt8)) (x : List UInt8) (h : a ≠ []) : join (a ++ [x]) = join a ++ 46 :: x := by rw [join_append a [x] h (by simp)]; rfl
theorem join_len (ls : List (List UInt8)) (h : ∀ x ∈ ls, okL x = true) : (join ls).length ≤ 9 * ls.length := by
  induction ls with
  | nil => simp [join]
  | cons x r ih =>
    have hx := h x (by simp)
    have h8 : x.length ≤ 8 := by simp only [okL, Bool.and_eq_true, decide_eq_true_eq] at hx; exact hx.1.2
    have := ih (fun y hy => h y (List.mem_cons_of_mem _ hy))
    by_cases hr : r = []
    · subst hr; simp [join]; omega
    · rw [join_cons x r hr]; simp; omega
theorem may_label {x : List UInt8} (h : okL x = true) : mayL x = true := (may_join (ls := [x]) (by simp) (by simpa using h)).1
theorem take_succ' (ls : List (List UInt8)) (j : Nat) (h : j < ls.length) : ls.take (j + 1) = ls.take j ++ [ls.getD j []] := by
  rw [List.take_add_one, List.getElem?_eq_getElem h]; simp [List.getD, h]
theorem getD_mem (ls : List (List UInt8)) (j : Nat) (h : j < ls.length) : ls.getD j [] ∈ ls := by
  have : ls.getD j [] = ls[j] := by simp [List.getD, h]
  rw [this]; exact List.getElem_mem h
theorem okL_bounds {x : List UInt8} (h : okL x = true) : 1 ≤ x.length ∧ x.length ≤ 8 := by simp only [okL, Bool.and_eq_true, decide_eq_true_eq] at h; exact h.1

theorem drop_pred (ls : List (List UInt8)) (j : Nat) (h : j < ls.length) : ls.drop j = ls.getD j [] :: ls.drop (j + 1) := by
  rw [List.drop_eq_getElem_cons h]; simp [List.getD, h]
theorem eq_yes {a b : ByteArray} (h : a = b) : (a.toList == b.toList) = true := by rw [h]; simp
theorem eq_no {a b : ByteArray} (h : a ≠ b) : (a.toList == b.toList) = false := by
  rw [beq_eq_false_iff_ne]; intro e; apply h; rw [ByteArray.toList_eq, ByteArray.toList_eq] at e; exact bs_inj e
theorem mayL_len {n : List UInt8} (h : mayL n = true) : n.length ≤ 72 := by
  have h1 := join_len (labsL n) (fun x hx => labsL_ok hx)
  have h2 := labsL_len n
  rw [join_labs h] at h1
  omega
end Go.Proofs.Ytlnkpgmflaekoaa
