/-
  Contract of the document's own answer of layer 6: GetOpts.
-/
import Derived.Test.YtkohojifnmklmaaOptRef3
namespace Go.Proofs.Ytkohojifnmklmaa
open Go.ChangeShapes Go.WideShapes Go.ChangeAt Go.RowKit Go.Pin Go.PlainAid

theorem nodup_len : ∀ (n : Nat) (l : List Int), l.Nodup → (∀ x ∈ l, 0 ≤ x ∧ x < n) → l.length ≤ n
  | 0, l, _, h => by
    cases l with
    | nil => simp
    | cons x r => have := h x (by simp); omega
  | n + 1, l, hn, h => by
    by_cases hm : (n : Int) ∈ l
    · have h1 := nodup_len n (l.erase (n : Int)) (hn.erase _) (fun x hx => by
        have hx' := (hn.mem_erase_iff).1 hx
        have := h x hx'.2
        have hne := hx'.1
        omega)
      rw [List.length_erase_of_mem hm] at h1
      omega
    · have h1 := nodup_len n l hn (fun x hx => by
        have := h x hx
        have : x ≠ n := fun e => hm (e ▸ hx)
        omega)
      omega
theorem code_len {os : List Opn} (h : CodeO os) : os.length ≤ 255 := by
  have := nodup_len 255 (os.map (·.1)) h.2 (fun x hx => by
    obtain ⟨o, ho, rfl⟩ := List.mem_map.1 hx
    have := h.1 o ho
    omega)
  simpa using this
theorem join_max {os : List Opn} {c : Int} {d : List UInt8} {n k : Nat} (h : ∀ o ∈ os, o.2.length ≤ n) (hd : d.length ≤ k) : ∀ o ∈ joinO os c d, o.2.length ≤ n + k := by
  intro o ho
  induction os with
  | nil => simp only [joinO, List.mem_singleton] at ho; subst ho; simp only; omega
  | cons x r ih =>
    unfold joinO at ho
    by_cases hx : x.1 = c
    · rw [if_pos hx] at ho
      rcases List.mem_cons.1 ho with rfl | ho
      · have := h x (by simp); simp only [List.length_append]; omega
      · have := h o (by simp [ho]); omega
    · rw [if_neg hx] at ho
      rcases List.mem_cons.1 ho with rfl | ho
      · have := h o (by simp); omega
      · exact ih (fun y hy => h y (by simp [hy])) ho
theorem join_ne_nil (os : List Opn) (c : Int) (d : List UInt8) : joinO os c d ≠ [] := by
  cases os with
  | nil => simp [joinO]
  | cons x r => unfold joinO; split <;> simp

end Go.Proofs.Ytkohojifnmklmaa
