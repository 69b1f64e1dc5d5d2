/-
  Plain: parts of options put together one by one, and what they tell.
-/
import Derived.Test.YtodjgbdjkncpgaaOptPure
namespace Go.Pin
open Go.PlainAid
/-- The options of a row of codes. -/
def opsS (st : Nat → List UInt8) (row : List Nat) : List Opn := row.map fun k : Nat => ((20 : Int) + (k : Int), st k)
def stS (st : Nat → List UInt8) (k : Nat) (t : List UInt8) : Nat → List UInt8 := fun x => if x = k then st x ++ t else st x
def rowS (row : List Nat) (k : Nat) : List Nat := if k ∈ row then row else row ++ [k]
theorem ops_same {st : Nat → List UInt8} {row : List Nat} {k : Nat} {t : List UInt8} (h : k ∉ row) : opsS (stS st k t) row = opsS st row := by
  unfold opsS
  apply List.map_congr_left
  intro x hx
  unfold stS
  rw [if_neg (fun e => h (by rw [← e]; exact hx))]
theorem place_ops {st : Nat → List UInt8} {row : List Nat} {k : Nat} (h : k ∉ row) : placeO (opsS st row) ((20 : Int) + k) = none := by
  rw [place_none]
  intro o ho e
  obtain ⟨x, hx, rfl⟩ := List.mem_map.1 ho
  simp only at e
  have : x = k := by omega
  subst this
  exact h hx
theorem join_in {st : Nat → List UInt8} {row : List Nat} {k : Nat} {t : List UInt8} (hn : row.Nodup) (h : k ∈ row) : joinO (opsS st row) ((20 : Int) + k) t = opsS (stS st k t) row := by
  induction row with
  | nil => cases h
  | cons x r ih =>
    simp only [List.nodup_cons] at hn
    have e : ∀ s : Nat → List UInt8, opsS s (x :: r) = ((20 : Int) + x, s x) :: opsS s r := fun s => rfl
    rw [e, e]
    unfold joinO
    by_cases hx : x = k
    · subst hx
      rw [if_pos rfl, ops_same hn.1]
      simp [stS]
    · rw [if_neg (by simp only; omega), ih hn.2 (by rcases List.mem_cons.1 h with h | h; (exact absurd h.symm hx); exact h)]
      simp [stS, hx]
theorem join_ops {st : Nat → List UInt8} {row : List Nat} {k : Nat} {t : List UInt8} (hn : row.Nodup) (h0 : k ∉ row → st k = []) : joinO (opsS st row) ((20 : Int) + k) t = opsS (stS st k t) (rowS row k) := by
  unfold rowS
  by_cases h : k ∈ row
  · rw [if_pos h]; exact join_in hn h
  · rw [if_neg h, join_new (place_ops h)]
    have e : opsS (stS st k t) (row ++ [k]) = opsS (stS st k t) row ++ [((20 : Int) + k, stS st k t k)] := by simp [opsS]
    rw [e, ops_same h]
    simp [stS, h0 h]
/-- Where the law stands behind j texts. -/
structure SplitInv (j : Nat) (st : Nat → List UInt8) (row : List Nat) (bytes : List UInt8) : Prop where
  nd : row.Nodup
  lt : ∀ k ∈ row, k < 4
  no : ∀ k, k ∉ row → st k = []
  sl : ∀ k, (st k).length ≤ 40 * j
  le : j ≤ 12
  by_ : bytes.length ≤ 42 * j
  get : ∀ r, getO (bytes ++ r) [] = getO r (opsS st row)
theorem nodup_lt : ∀ (n : Nat) (l : List Nat), l.Nodup → (∀ x ∈ l, x < n) → l.length ≤ n
  | 0, l, _, h => by
    cases l with
    | nil => simp
    | cons x r => have := h x (by simp); omega
  | n + 1, l, hn, h => by
    by_cases hm : n ∈ l
    · have h1 := nodup_lt n (l.erase n) (hn.erase _) (fun x hx => by
        have hx' := (hn.mem_erase_iff).1 hx
        have := h x hx'.2
        have hne := hx'.1
        omega)
      rw [List.length_erase_of_mem hm] at h1
      omega
    · have h1 := nodup_lt n l hn (fun x hx => by
        have := h x hx
        have : x ≠ n := fun e => hm (e ▸ hx)
        omega)
      omega
theorem split_nil : SplitInv 0 (fun _ => []) [] [] := ⟨by simp, by simp, fun _ _ => rfl, by simp, by omega, by simp, fun r => by simp [opsS]⟩
theorem row_lt {row : List Nat} {k : Nat} (h : ∀ x ∈ row, x < 4) (hk : k < 4) : ∀ x ∈ rowS row k, x < 4 := by
  intro x hx
  unfold rowS at hx
  split at hx
  · exact h x hx
  · rcases List.mem_append.1 hx with hx | hx
    · exact h x hx
    · simp only [List.mem_singleton] at hx; omega
theorem row_nd {row : List Nat} {k : Nat} (h : row.Nodup) : (rowS row k).Nodup := by
  unfold rowS
  split
  · exact h
  · rename_i hk
    rw [List.nodup_append]
    refine ⟨h, by simp, fun a ha b hb => ?_⟩
    simp only [List.mem_singleton] at hb
    subst hb
    exact fun e => hk (e ▸ ha)
theorem split_next {j : Nat} {st : Nat → List UInt8} {row : List Nat} {bytes : List UInt8} (h : SplitInv j st row bytes) {k : Nat} {t : List UInt8} (hk : k < 4) (ht : t.length ≤ 40) (hj : j < 12) :
    SplitInv (j + 1) (stS st k t) (rowS row k) (bytes ++ byteO ((20 : Int) + k) :: UInt8.ofNat t.length :: t) := by
  have hst : ∀ x, (stS st k t x).length ≤ 40 * (j + 1) := fun x => by
    have := h.sl x
    unfold stS
    split
    · rw [List.length_append]; omega
    · omega
  refine ⟨row_nd h.nd, row_lt h.lt hk, fun x hx => ?_, hst, by omega, ?_, fun r => ?_⟩
  · unfold rowS at hx
    unfold stS
    split at hx
    · rename_i hkr
      rw [if_neg (fun e => hx (by rw [e]; exact hkr))]; exact h.no x hx
    · simp only [List.mem_append, List.mem_singleton, not_or] at hx
      rw [if_neg hx.2]; exact h.no x hx.1
  · have := h.by_
    simp only [List.length_append, List.length_cons]; omega
  · have e : bytes ++ byteO ((20 : Int) + k) :: UInt8.ofNat t.length :: t ++ r = bytes ++ (byteO ((20 : Int) + k) :: UInt8.ofNat t.length :: (t ++ r)) := by simp
    rw [e, h.get]
    have hc := byteO_back (c := (20 : Int) + k) (by omega) (by omega)
    have hne := byteO_ne (c := (20 : Int) + k) (by omega) (by omega)
    have hkk : (UInt8.ofNat t.length).toNat = t.length := by rw [UInt8.toNat_ofNat']; omega
    rw [getO_part hne.1 hne.2 (by rw [hkk]; simp), hc, hkk, List.take_left, List.drop_left, join_ops h.nd (h.no k), if_pos]
    unfold roomO
    rw [Bool.and_eq_true, decide_eq_true_eq, decide_eq_true_eq]
    constructor
    · have := nodup_lt 4 (rowS row k) (row_nd h.nd) (row_lt h.lt hk)
      simp only [opsS, List.length_map]; omega
    · cases hf : findO (opsS (stS st k t) (rowS row k)) ((20 : Int) + k) with
      | none => simp
      | some d =>
        simp only [Option.getD_some]
        have : ∃ x, d = stS st k t x := by
          clear e hc hne hkk
          generalize rowS row k = rw0 at hf
          induction rw0 with
          | nil => simp [opsS, findO] at hf
          | cons y q ih =>
            have e2 : opsS (stS st k t) (y :: q) = ((20 : Int) + y, stS st k t y) :: opsS (stS st k t) q := rfl
            rw [e2] at hf
            unfold findO at hf
            split at hf
            · cases hf; exact ⟨y, rfl⟩
            · exact ih hf
        obtain ⟨x, rfl⟩ := this
        have := hst x
        omega
end Go.Pin
