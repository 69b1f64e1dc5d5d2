/-
  Contracts of package opts: Get and Find, at every text, every list.
-/
import Derived.Test.YtkohojifnmklmaaOptJoin
namespace Go.Proofs.Ytkohojifnmklmaa
open Go.ChangeShapes Go.WideShapes Go.ChangeAt Go.RowKit Go.Pin Go.PlainAid

/-- The data of a part: what is taken, how far. -/
def partT (s : ByteArray) (x : Tk) : ByteArray × Tk := textT s (numT s 1 x).1.toNat (numT s 1 x).2
theorem bs_extract (s : ByteArray) (a n : Nat) : bs (s.extract a (a + n)) = ((bs s).drop a).take n := by
  simp [bs, List.take_drop]
theorem part_end {s : ByteArray} {a : Nat} (h : a = (bs s).length) : (partT s ⟨a, false⟩).2.f = true ∧ (partT s ⟨a, false⟩).1 = ⟨#[]⟩ := by
  have h1 : (getB s (a : Int) 1).2 ≠ 0 := by
    rw [length_bs] at h
    unfold getB; rw [if_neg (by omega), if_pos (by simp; omega)]; decide
  have e : numT s 1 ⟨a, false⟩ = (0, ⟨a, true⟩) := by simp [numT, h1]
  unfold partT
  rw [e]
  simp [textT]
theorem part_is {s : ByteArray} {a : Nat} (h : a < (bs s).length) : partT s ⟨a, false⟩ = if ((bs s).drop (a + 1)).length < ((bs s)[a]).toNat then (⟨#[]⟩, ⟨(a + 1 : Nat), true⟩) else (mk (((bs s).drop (a + 1)).take ((bs s)[a]).toNat), ⟨(a + 1 + ((bs s)[a]).toNat : Nat), false⟩) := by
  unfold partT
  rw [numT_one h]
  have hl := length_bs s
  simp only [textT, Int.toNat_natCast, List.length_drop]
  by_cases hh : (bs s).length - (a + 1) < ((bs s)[a]).toNat
  · rw [if_pos hh, if_neg (by simp), if_neg (by omega)]; simp
  · rw [if_neg hh, if_neg (by simp), if_pos (by omega)]
    rw [show ((a : Int) + 1).toNat = a + 1 by omega]
    refine Prod.ext ?_ ?_
    · apply bs_inj; rw [bs_extract, bs_mk]
    · simp
theorem join_mem {os : List Opn} {c : Int} {d : List UInt8} {o : Opn} (h : o ∈ joinO os c d) : o ∈ os ∨ findO (joinO os c d) c = some o.2 := by
  cases hp : placeO os c with
  | none =>
    rw [join_new hp] at h ⊢
    rcases List.mem_append.1 h with h | h
    · exact .inl h
    · simp only [List.mem_singleton] at h
      subst h
      exact .inr (find_last hp d)
  | some j =>
    have h1 := (find_old (join_place hp d)).1
    rw [join_old hp] at h h1 ⊢
    rcases List.mem_or_eq_of_mem_set h with h | h
    · exact .inl h
    · refine .inr ?_
      rw [h1, h, List.getD_eq_getElem?_getD (l := os.set j _), List.getElem?_set_self (place_lt hp)]
      rfl
/-- One part more. -/
theorem get_step {s : ByteArray} {a : Nat} {c : UInt8} {os : List Opn} (h0 : c ≠ 0) (h1 : c ≠ 255) (ha : a ≤ (bs s).length) (hs : ∀ o ∈ os, o.2.length ≤ 512) :
    ((mustT (roomO (joinO os c.toNat (bs (partT s ⟨a, false⟩).1)) c.toNat) (partT s ⟨a, false⟩).2).f = true ∧ getO (c :: (bs s).drop a) os = none) ∨
    (∃ a' : Nat, mustT (roomO (joinO os c.toNat (bs (partT s ⟨a, false⟩).1)) c.toNat) (partT s ⟨a, false⟩).2 = ⟨a', false⟩ ∧ a < a' ∧ a' ≤ (bs s).length ∧ getO (c :: (bs s).drop a) os = getO ((bs s).drop a') (joinO os c.toNat (bs (partT s ⟨a, false⟩).1)) ∧ (joinO os c.toNat (bs (partT s ⟨a, false⟩).1)).length ≤ 32 ∧ ∀ o ∈ joinO os c.toNat (bs (partT s ⟨a, false⟩).1), o.2.length ≤ 512) := by
  by_cases ha2 : a < (bs s).length
  · rw [part_is ha2]
    have hd : (bs s).drop a = (bs s)[a] :: (bs s).drop (a + 1) := List.drop_eq_getElem_cons ha2
    rw [hd]
    generalize (bs s)[a] = nb at *
    by_cases hh : ((bs s).drop (a + 1)).length < nb.toNat
    · rw [if_pos hh]
      exact .inl ⟨by simp [mustT], getO_short h0 h1 hh _⟩
    · rw [if_neg hh, getO_part h0 h1 hh]
      simp only [bs_mk]
      generalize hdd : ((bs s).drop (a + 1)).take nb.toNat = d
      cases hr : roomO (joinO os c.toNat d) c.toNat with
      | false => exact .inl ⟨by simp [mustT], by simp⟩
      | true =>
        refine .inr ⟨a + 1 + nb.toNat, by simp [mustT], by omega, ?_, by simp [List.drop_drop], ?_, ?_⟩
        · rw [List.length_drop] at hh; omega
        · simp only [roomO, Bool.and_eq_true, decide_eq_true_eq] at hr; exact hr.1
        · intro o ho
          simp only [roomO, Bool.and_eq_true, decide_eq_true_eq] at hr
          rcases join_mem ho with h | h
          · exact hs o h
          · rw [h] at hr; exact hr.2
  · have he := part_end (s := s) (a := a) (by omega)
    refine .inl ⟨by simp [mustT, he.1], ?_⟩
    rw [List.drop_eq_nil_of_le (by omega), getO_one h0 h1]
theorem num_255 (s : ByteArray) (x : Tk) : 0 ≤ (numT s 1 x).1 ∧ (numT s 1 x).1 < 256 := by
  unfold numT
  split
  · simp
  · split
    · unfold getB
      split
      · simp
      · split
        · simp
        · have := num_bd s x.at_.toNat 1
          simpa using this
    · simp
theorem part_len (s : ByteArray) (x : Tk) : (bs (partT s x).1).length ≤ 1000 := by
  have h := num_255 s x
  rw [length_bs]
  unfold partT textT
  split
  · exact Nat.zero_le _
  · split
    · simp; omega
    · exact Nat.zero_le _
/-- Where the reading stands: how far, what was taken, the next code. -/
def GetInv (s : ByteArray) (G : Option (List Opn)) (x : Tk) (os : List Opn) (cv : Int) (k : Nat) : Prop :=
  (x.f = true ∧ cv = 255 ∧ G = none) ∨ ∃ (a : Nat) (c : UInt8), x = ⟨a, false⟩ ∧ cv = c.toNat ∧ c ≠ 0 ∧ a ≤ (bs s).length ∧ G = (if c = 255 then some os else getO (c :: (bs s).drop a) os) ∧ os.length ≤ 32 ∧ (∀ o ∈ os, o.2.length ≤ 512) ∧ k = (bs s).length - a + 1
theorem inv_code {s : ByteArray} {G : Option (List Opn)} {os : List Opn} {a : Nat} (ha : a ≤ (bs s).length) (hG : G = getO ((bs s).drop a) os) (hl : os.length ≤ 32) (hs : ∀ o ∈ os, o.2.length ≤ 512) :
    GetInv s G ⟨(a + (codeL ((bs s).drop a)).1 : Nat), false⟩ os ((codeL ((bs s).drop a)).2.toNat : Int) ((bs s).length - (a + (codeL ((bs s).drop a)).1) + 1) := by
  have h1 := codeL_le ((bs s).drop a)
  rw [List.length_drop] at h1
  refine .inr ⟨_, _, rfl, rfl, codeL_ne _, by omega, ?_, hl, hs, rfl⟩
  rw [hG, getO_code, List.drop_drop]
/-- Find's answer. -/
def findA (os : List Opn) (c : Int) : List UInt8 × Bool := ((findO os c).getD [], (findO os c).isSome)
theorem find_at (os : List Opn) (c : Int) : (∃ j, j < os.length ∧ (opAt os j).1 = c ∧ findO os c = some (opAt os j).2 ∧ ∀ i, i < j → (opAt os i).1 ≠ c) ∨ (findO os c = none ∧ ∀ i, i < os.length → (opAt os i).1 ≠ c) := by
  induction os with
  | nil => exact .inr ⟨rfl, fun i hi => by simp at hi⟩
  | cons k r ih =>
    by_cases h : k.1 = c
    · exact .inl ⟨0, by simp, h, by simp [findO, h, opAt], fun i hi => by omega⟩
    · rcases ih with ⟨j, hj, h1, h2, h3⟩ | ⟨h1, h2⟩
      · refine .inl ⟨j + 1, by simp; omega, h1, ?_, fun i hi => ?_⟩
        · simp only [findO, if_neg h, h2]; rfl
        · cases i with
          | zero => exact h
          | succ i => exact h3 i (by omega)
      · refine .inr ⟨by simp [findO, h, h1], fun i hi => ?_⟩
        cases i with
        | zero => exact h
        | succ i => exact h2 i (by simp at hi; omega)
theorem find_from (x : Addr) (cap : Nat) (os : List Opn) (c : Int) (w : World) (hl : os.length ≤ 10000000000000) (h : OpFrom w x os) :
    Calls Try.prog 33 #[.slice (some x) os.length cap, .int .i64 c] w fun e w' => e = .returned (.tuple #[.string (mk (findA os c).1), .bool (findA os c).2]) ∧ Below w.heap.size w w' := by
  have HF : Hid (_) := find_at os c
  have HA : Hid (findA os c = ((findO os c).getD [], (findO os c).isSome)) := rfl
  generalize findA os c = V at *
  generalize findO os c = U at *
  have H : Hid (OpFrom w x os) := h
  clear h
  go_enter Try.func33, Try.ntmps33
  go_wp2
  go_loopw [10] (fun i wr => ∃ j : Nat, j ≤ os.length ∧ i = .int .i64 j ∧ Hid (∀ i, i < j → (opAt os i).1 ≠ c) ∧ Hid (Below w.heap.size w wr)) (fun i _ => os.length - (intOf i).toNat)
  case atStart => exact ⟨0, Nat.zero_le _, rfl, fun i hi => by omega, Below.refl _ _⟩
  case round =>
    obtain ⟨j, hj, rfl, hall, B⟩ := hrel
    by_cases hlt : j < os.length
    · obtain ⟨h0, h1⟩ := (H.out j hlt).below B.out
      by_cases he : (opAt os j).1 = c
      · have HV : Hid (V = ((opAt os j).2, true)) := by
          show _ = _
          rcases HF.out with ⟨i, hi, h1, h2, h3⟩ | ⟨h1, h2⟩
          · have : i = j := by
              rcases Nat.lt_trichotomy i j with hh | hh | hh
              · exact absurd h1 (hall.out i hh)
              · exact hh
              · exact absurd he (h3 j hh)
            subst this; rw [HA.out, h2]; rfl
          · exact absurd he (h2 j hlt)
        have heq : ((opAt os j).1 == c) = true := by simpa using he
        generalize (opAt os j).1 = cj at *
        generalize (opAt os j).2 = dj at *
        subst he
        clear HF hall HA
        go_wp2
        go_ret2
        refine ⟨?_, B.out.alloc B.out.size _⟩
        rw [HV.out]
        rfl
      · have heq : ((opAt os j).1 == c) = false := by simpa using he
        have Hne : Hid ((opAt os j).1 ≠ c) := he
        clear he
        go_wp2
        refine ⟨⟨j + 1, by omega, by go_num, fun i hi => ?_, B.out.alloc B.out.size _⟩, by simp [intOf]; omega⟩
        by_cases e : i = j
        · subst e; exact Hne.out
        · exact hall.out i (by omega)
    · obtain rfl : j = os.length := by omega
      have HV : Hid (V = ([], false)) := by
        show _ = _
        rcases HF.out with ⟨i, hi, h1, h2, h3⟩ | ⟨h1, h2⟩
        · exact absurd h1 (hall.out i hi)
        · rw [HA.out, h1]; rfl
      go_wp2
      go_ret2
      refine ⟨?_, B.out⟩
      rw [HV.out]
      rfl
theorem find_nil (a : Option Addr) (cap : Nat) (c : Int) (w : World) :
    Calls Try.prog 33 #[.slice a 0 cap, .int .i64 c] w fun e w' => e = .returned (.tuple #[.string ⟨#[]⟩, .bool false]) ∧ w' = w := by
  go_enter Try.func33, Try.ntmps33
  go_wp2
  go_rounds 1
  go_ret2
  exact ⟨rfl, rfl⟩
theorem oFind_c (a : Option Addr) (cap : Nat) (os : List Opn) (c : Int) (w : World) (hl : os.length ≤ 10000000000000) (h : OpLies w a os) :
    Calls Try.prog 33 #[.slice a os.length cap, .int .i64 c] w fun e w' => e = .returned (.tuple #[.string (mk (findA os c).1), .bool (findA os c).2]) ∧ Below w.heap.size w w' := by
  rcases h with rfl | ⟨x, rfl, h⟩
  · exact (find_nil a cap c w).mono fun e w' ⟨h1, h2⟩ => ⟨h1, by rw [h2]; exact Below.refl _ _⟩
  · exact find_from x cap os c w hl h

/-! ### the answers named -/
end Go.Proofs.Ytkohojifnmklmaa
