/-
  Plain: what the document's own reading of a packet's options joins is what the program joins.
-/
import Derived.Test.YtkohojifnmklmaaPackPure
import Derived.Test.YtkohojifnmklmaaOptRead
namespace Go.Proofs.Ytkohojifnmklmaa
open Go.RowKit Go.Pin Go.PlainAid

/-- Options, and more of them, one by one. -/
def joinAll (os xs : List Opn) : List Opn := xs.foldl (fun acc o => joinO acc o.1 o.2) os
/-- But the one that tells of the two places. -/
def wo (xs : List Opn) : List Opn := xs.filter fun o => decide (o.1 ≠ 52)
theorem joinAll_cons (os : List Opn) (x : Opn) (xs : List Opn) : joinAll os (x :: xs) = joinAll (joinO os x.1 x.2) xs := rfl
theorem joinAll_append (os a b : List Opn) : joinAll os (a ++ b) = joinAll (joinAll os a) b := by simp [joinAll]
theorem joinAll_take {os xs : List Opn} {j : Nat} (h : j < xs.length) : joinAll os (xs.take (j + 1)) = joinO (joinAll os (xs.take j)) (xs.getD j (0, [])).1 (xs.getD j (0, [])).2 := by
  rw [List.take_add_one, List.getElem?_eq_getElem h, joinAll_append, List.getD_eq_getElem?_getD, List.getElem?_eq_getElem h]
  rfl
theorem wo_append (a b : List Opn) : wo (a ++ b) = wo a ++ wo b := by simp [wo]
theorem wo_take {xs : List Opn} {j : Nat} (h : j < xs.length) : wo (xs.take (j + 1)) = wo (xs.take j) ++ (if (xs.getD j (0, [])).1 ≠ 52 then [xs.getD j (0, [])] else []) := by
  rw [List.take_add_one, List.getElem?_eq_getElem h, wo_append, List.getD_eq_getElem?_getD, List.getElem?_eq_getElem h]
  simp only [Option.toList_some, Option.getD_some]
  by_cases h52 : (xs[j]).1 = 52
  · simp [wo, h52]
  · simp [wo, h52]
theorem join_join (os : List Opn) (c : Int) (a b : List UInt8) : joinO (joinO os c a) c b = joinO os c (a ++ b) := by
  induction os with
  | nil => simp [joinO]
  | cons o r ih =>
    by_cases h : o.1 = c
    · simp [joinO, h]
    · simp [joinO, h, ih]
theorem getR_one_part {c : Int} {acc : List Opn} {d rest : List UInt8} (h0 : 0 < c) (h1 : c < 255) (hd : d.length ≤ 255) : getR (byteO c :: UInt8.ofNat d.length :: (d ++ rest)) acc = getR rest (joinO acc c d) := by
  have hc := byteO_back (c := c) (by omega) (by omega)
  have hne := byteO_ne h0 h1
  have hk : (UInt8.ofNat d.length).toNat = d.length := by rw [UInt8.toNat_ofNat']; omega
  rw [getR_part hne.1 hne.2 (by rw [hk]; simp), hc, hk, List.take_left, List.drop_left]
theorem getR_parts {c : Int} (d : List UInt8) (h0 : 0 < c) (h1 : c < 255) (acc : List Opn) (rest : List UInt8) : getR (partsL (byteO c) d ++ rest) acc = getR rest (joinO acc c d) := by
  induction hk : d.length using Nat.strongRecOn generalizing d acc with
  | _ n ih =>
    by_cases h : 255 < d.length
    · rw [parts_long h]
      have ht : (d.take 255).length = 255 := by simp; omega
      have := getR_one_part (c := c) (acc := acc) (d := d.take 255) (rest := partsL (byteO c) (d.drop 255) ++ rest) h0 h1 (by omega)
      rw [ht] at this
      simp only [List.cons_append, List.append_assoc]
      rw [show (255 : UInt8) = UInt8.ofNat 255 from rfl, this, ih (d.drop 255).length (by simp; omega) (d.drop 255) _ rfl, join_join, List.take_append_drop]
    · rw [parts_short h]
      exact getR_one_part h0 h1 (by omega)
theorem getR_body (xs : List Opn) (h : ∀ o ∈ xs, 0 < o.1 ∧ o.1 < 255) (acc : List Opn) (rest : List UInt8) : getR (bodyO xs ++ rest) acc = getR rest (joinAll acc xs) := by
  induction xs generalizing acc with
  | nil => rfl
  | cons o r ih =>
    have ho := h o (by simp)
    rw [show bodyO (o :: r) ++ rest = partsL (byteO o.1) o.2 ++ (bodyO r ++ rest) by simp [bodyO], getR_parts o.2 ho.1 ho.2, ih (fun x hx => h x (List.mem_cons_of_mem _ hx)), joinAll_cons]
/-- A list, if it may be. -/
def fin (os : List Opn) : Option (List Opn) := if mayO os then some os else none
theorem joinP_is (xs : List Opn) (h : ∀ o ∈ xs, 0 < o.1 ∧ o.1 < 255) : joinP xs = fin (joinAll [] (wo xs)) := by
  have := getR_body (wo xs) (fun o ho => h o (List.mem_filter.1 ho).1) [] []
  rw [List.append_nil, getR_nil] at this
  unfold joinP
  rw [show rowsJ xs = bodyO (wo xs) from rfl, read_is, this]
  rfl
theorem joinAll_new (pre os : List Opn) (h : ((pre ++ os).map (·.1)).Nodup) : joinAll pre os = pre ++ os := by
  induction os generalizing pre with
  | nil => simp [joinAll]
  | cons o r ih =>
    have hn : placeO pre o.1 = none := by
      rw [place_none]
      intro x hx e
      simp only [List.map_append, List.map_cons] at h
      rw [List.nodup_append] at h
      exact h.2.2 x.1 (List.mem_map.2 ⟨x, hx, rfl⟩) o.1 (by simp) e
    rw [joinAll_cons, join_new hn, ih]
    · simp
    · simpa using h
theorem wo_nodup {a : List Opn} (h : (a.map (·.1)).Nodup) : ((wo a).map (·.1)).Nodup := h.sublist ((List.filter_sublist (l := a)).map _)
theorem may_codes {a : List Opn} (h : MayO a) : ∀ o ∈ a, 0 < o.1 ∧ o.1 < 255 := fun o ho => by
  have := (okO_iff o).1 (h.2.1 o ho)
  exact ⟨this.1, this.2.1⟩
theorem getO_may {s : List UInt8} {os : List Opn} (h : getO s [] = some os) : MayO os := by
  rw [read_is] at h
  cases hr : getR s [] with
  | none => rw [hr] at h; cases h
  | some x =>
    rw [hr] at h
    simp only at h
    cases hm : mayO x with
    | false => rw [hm] at h; cases h
    | true =>
      rw [hm] at h
      simp only [if_true, Option.some.injEq] at h
      subst h
      simpa [mayO] using hm
theorem wo_self {a : List Opn} (h : MayO a) : joinAll [] (wo a) = wo a := by
  have := joinAll_new [] (wo a) (by simpa using wo_nodup h.2.2)
  simpa using this
/-- What is joined in two places. -/
theorem optsP_1 {r boot file : List UInt8} {a : List Opn} (h : getO r [] = some a) (ho : ovr a = [1]) : optsP r boot file = (getO file []).bind fun b => fin (joinAll (wo a) (wo b)) := by
  have ma := getO_may h
  unfold optsP
  rw [h]
  simp only [ho, if_true]
  cases hb : getO file [] with
  | none => rfl
  | some b =>
    have mb := getO_may hb
    simp only [Option.bind_some]
    rw [joinP_is _ (fun o ho => by rcases List.mem_append.1 ho with ho | ho; exact may_codes ma o ho; exact may_codes mb o ho), wo_append, joinAll_append, wo_self ma]
theorem optsP_2 {r boot file : List UInt8} {a : List Opn} (h : getO r [] = some a) (ho : ovr a = [2]) : optsP r boot file = (getO boot []).bind fun b => fin (joinAll (wo a) (wo b)) := by
  have ma := getO_may h
  unfold optsP
  rw [h]
  simp only [ho, if_true, if_neg (show ¬ ([2] : List UInt8) = [1] by decide)]
  cases hb : getO boot [] with
  | none => rfl
  | some b =>
    have mb := getO_may hb
    simp only [Option.bind_some]
    rw [joinP_is _ (fun o ho => by rcases List.mem_append.1 ho with ho | ho; exact may_codes ma o ho; exact may_codes mb o ho), wo_append, joinAll_append, wo_self ma]
theorem optsP_3 {r boot file : List UInt8} {a : List Opn} (h : getO r [] = some a) (ho : ovr a = [3]) : optsP r boot file = (getO file []).bind fun b => (getO boot []).bind fun c => fin (joinAll (joinAll (wo a) (wo b)) (wo c)) := by
  have ma := getO_may h
  unfold optsP
  rw [h]
  simp only [ho, if_true, if_neg (show ¬ ([3] : List UInt8) = [1] by decide), if_neg (show ¬ ([3] : List UInt8) = [2] by decide)]
  cases hb : getO file [] with
  | none => rfl
  | some b =>
    have mb := getO_may hb
    cases hc : getO boot [] with
    | none => rfl
    | some c =>
      have mc := getO_may hc
      simp only [Option.bind_some]
      rw [joinP_is _ (fun o ho => by rcases List.mem_append.1 ho with ho | ho; (rcases List.mem_append.1 ho with ho | ho; exact may_codes ma o ho; exact may_codes mb o ho); exact may_codes mc o ho), wo_append, wo_append, joinAll_append, joinAll_append, wo_self ma]
theorem optsP_0 {r boot file : List UInt8} {a : List Opn} (h : getO r [] = some a) (h1 : ovr a ≠ [1]) (h2 : ovr a ≠ [2]) (h3 : ovr a ≠ [3]) : optsP r boot file = some a := by
  unfold optsP
  rw [h]
  simp only [h1, h2, h3, if_false]
theorem optsP_no {r boot file : List UInt8} (h : getO r [] = none) : optsP r boot file = none := by
  unfold optsP
  rw [h]
/-! ### how great what is joined may be -/
theorem joinQ_len (os : List Opn) (c : Int) (d : List UInt8) : (joinO os c d).length ≤ os.length + 1 := by
  cases hp : placeO os c with
  | none => rw [join_len_new hp]; exact Nat.le_refl _
  | some j => rw [join_len_old hp]; omega
theorem join_data {os : List Opn} {c : Int} {d : List UInt8} {n k : Nat} (h : ∀ o ∈ os, o.2.length ≤ n) (hd : d.length ≤ k) : ∀ o ∈ joinO os c d, o.2.length ≤ n + k := by
  intro o ho
  induction os with
  | nil => simp only [joinO, List.mem_singleton] at ho; subst ho; simp only; omega
  | cons x r ih =>
    unfold joinO at ho
    by_cases hx : x.1 = c
    · rw [if_pos hx] at ho
      rcases List.mem_cons.1 ho with rfl | ho
      · have := h x (by simp); simp only [List.length_append]; omega
      · have := h o (by simp [ho]); omega
    · rw [if_neg hx] at ho
      rcases List.mem_cons.1 ho with rfl | ho
      · have := h o (by simp); omega
      · exact ih (fun y hy => h y (by simp [hy])) ho
theorem joinAll_size (xs : List Opn) : ∀ (os : List Opn) (n : Nat), (∀ o ∈ os, o.2.length ≤ n) → (∀ o ∈ xs, o.2.length ≤ 512) → (joinAll os xs).length ≤ os.length + xs.length ∧ ∀ o ∈ joinAll os xs, o.2.length ≤ n + 512 * xs.length := by
  induction xs with
  | nil => intro os n h _; exact ⟨by simp [joinAll], fun o ho => by have := h o ho; omega⟩
  | cons x r ih =>
    intro os n h hx
    obtain ⟨h1, h2⟩ := ih (joinO os x.1 x.2) (n + 512) (join_data h (hx x (by simp))) (fun o ho => hx o (by simp [ho]))
    have := joinQ_len os x.1 x.2
    rw [joinAll_cons]
    refine ⟨by simp only [List.length_cons]; omega, fun o ho => ?_⟩
    have := h2 o ho
    simp only [List.length_cons]
    omega
theorem wo_len (a : List Opn) : (wo a).length ≤ a.length := List.length_filter_le _ _
theorem join_some (os : List Opn) (c : Int) (d : List UInt8) : joinO os c d ≠ [] := by
  cases os with
  | nil => simp [joinO]
  | cons x r => unfold joinO; split <;> simp
end Go.Proofs.Ytkohojifnmklmaa
