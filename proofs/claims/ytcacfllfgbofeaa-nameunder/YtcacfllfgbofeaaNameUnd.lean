/-
  The contract of name.Under, at whatever two texts.
-/
import Derived.Test.YtcacfllfgbofeaaNameTexts
namespace Go.Proofs.Ytcacfllfgbofeaa
open Go.ChangeShapes Go.WideShapes Go.ChangeAt Go.RowKit Go.Pin Go.PlainAid

/-- A list of the call's own is nil, or lies in a block of its own. -/
theorem Texts.cases {w : World} {base : Nat} {v : Value} {ls : List (List UInt8)} (h : Texts w base v ls) :
    (v = .slice none 0 0 ∧ ls = []) ∨ ∃ g cap, v = .slice (some ⟨g, 0, none⟩) ls.length cap ∧ ls.length ≤ cap ∧ cap ≤ maxLen ∧ base ≤ g ∧ g < w.heap.size ∧ (∀ j, j < ls.length → w.cell? ⟨g, j, none⟩ = some (.string (mk (ls.getD j [])))) ∧ ∀ j, w.frozen? ⟨g, j, none⟩ = false := by
  have hh := h
  obtain ⟨_, h | ⟨g, cap, cur, hv, hg, hb, hn, hm, hz, ht⟩⟩ := h
  · exact .inl ⟨h.1, List.eq_nil_of_length_eq_zero h.2⟩
  · refine .inr ⟨g, cap, hv, hn, hm, hg, (Array.getElem?_eq_some_iff.1 hb).1, ?_, ?_⟩
    · intro j hj
      subst hv
      have := World.ownsRow.cellAt hh j (by omega)
      rw [this]
      simp [List.getD, hj]
    · intro j
      subst hv
      exact World.ownsRow.frozenAt hh j

theorem Texts.lies {w : World} {base : Nat} {v : Value} {ls : List (List UInt8)} (h : Texts w base v ls) : ∃ a cap, v = .slice a ls.length cap ∧ Lies w a ls := by
  rcases h.cases with ⟨rfl, rfl⟩ | ⟨g, cap, rfl, _, _, _, _, hc, _⟩
  · exact ⟨none, 0, rfl, .inl rfl⟩
  · exact ⟨_, cap, rfl, .inr ⟨g, 0, rfl, fun j hj => by rw [Nat.zero_add]; exact hc j hj⟩⟩

theorem under_no (s z : ByteArray) (w : World) (hs : s.size ≤ maxLen) (hz : z.size ≤ maxLen) (h : mayL (bs s) = false ∨ mayL (bs z) = false ∨ (labsL (bs s)).length < (labsL (bs z)).length) :
    Calls Try.prog 16 #[.string s, .string z] w fun e w' => e = .returned (.bool false) ∧ Below w.heap.size w w' := by
  have H : Hid (mayL (bs s) = false ∨ mayL (bs z) = false ∨ (labsL (bs s)).length < (labsL (bs z)).length) := h
  have hl1 := labsL_len (bs s)
  have hl2 := labsL_len (bs z)
  clear h
  go_enter Try.func16, Try.ntmps16
  go_wp2_with fail
  refine (cut_c _ _ hs).mono ?_; rintro e w1 ⟨⟨v, rfl, ho⟩, hb⟩
  obtain ⟨a, cap, rfl⟩ := ho.form
  go_wp2_with fail
  refine (cut_c _ _ hz).mono ?_; rintro e w2 ⟨⟨v, rfl, ho2⟩, hb2⟩
  obtain ⟨a2, cap2, rfl⟩ := ho2.form
  have B := bel_trans hb hb2
  clear hb hb2 ho ho2 hs hz
  rcases H.out with h | h | h
  · rw [h]
    clear h
    go_wp2
    all_goals
      go_ret
      exact ⟨rfl, B⟩
  · rw [h]
    clear h
    go_wp2
    all_goals
      go_ret
      exact ⟨rfl, B⟩
  · have h' : ((labsL (bs s)).length : Int) < ((labsL (bs z)).length : Int) := by omega
    generalize (labsL (bs s)).length = n1 at *
    generalize (labsL (bs z)).length = n2 at *
    go_wp2
    all_goals
      go_ret
      exact ⟨rfl, B⟩

theorem under_some (s z : ByteArray) (w : World) (hs : s.size ≤ maxLen) (hz : z.size ≤ maxLen) (h1 : mayL (bs s) = true) (h2 : mayL (bs z) = true) (h3 : (labsL (bs z)).length ≤ (labsL (bs s)).length) :
    Calls Try.prog 16 #[.string s, .string z] w fun e w' => e = .returned (.bool (decide (labsL (bs z) <:+ labsL (bs s)))) ∧ Below w.heap.size w w' := by
  have hl1 := labsL_len (bs s)
  have hl2 := labsL_len (bs z)
  have Hs : Hid (s.size ≤ maxLen) := hs
  have Hz : Hid (z.size ≤ maxLen) := hz
  have H1 : Hid (mayL (bs s) = true) := h1
  have H2 : Hid (mayL (bs z) = true) := h2
  generalize h4 : labsL (bs s) = l1 at *
  generalize h5 : labsL (bs z) = l2 at *
  have H4 : Hid (labsL (bs s) = l1) := h4
  have H5 : Hid (labsL (bs z) = l2) := h5
  clear hs hz h1 h2 h4 h5
  go_enter Try.func16, Try.ntmps16
  go_wp2_with fail
  refine (cut_c _ _ Hs.out).mono ?_; rintro e w1 ⟨⟨v, rfl, ho⟩, hb⟩
  rw [H4.out] at ho
  obtain ⟨a, cap, rfl⟩ := ho.form
  go_wp2_with fail
  refine (cut_c _ _ Hz.out).mono ?_; rintro e w2 ⟨⟨v, rfl, ho2⟩, hb2⟩
  rw [H1.out, H2.out]
  have B := bel_trans hb hb2
  replace ho := ho.below hb2
  rw [H5.out] at ho2
  obtain ⟨a2, cap2, rfl, hz2⟩ := ho2.lies
  clear hb hb2 ho2
  rcases ho.cases with ⟨he, rfl⟩ | ⟨g, cap', he, hn, hm, hg, hgs, hc, hf⟩
  · cases he
    obtain rfl : l2 = [] := List.eq_nil_of_length_eq_zero (by simpa using h3)
    clear ho
    go_wp2_with fail
    refine (equal_c none a2 [] [] 0 cap2 w2 rfl (by simp) (.inl rfl) (.inl rfl)).mono ?_; rintro e w3 ⟨rfl, hb3⟩
    go_wp2
    go_ret
    exact ⟨rfl, bel_trans B hb3⟩
  · cases he
    have h3' : (l2.length : Int) ≤ (l1.length : Int) := by omega
    have Hc : Hid (∀ j, j < l1.length → w2.cell? ⟨g, j, none⟩ = some (.string (mk (l1.getD j [])))) := hc
    clear hc hf
    unfold maxLen at hm
    have e : l1.length - (l1.length - l2.length) = (l1.drop (l1.length - l2.length)).length := by simp
    have E : Hid (l1.length - (l1.length - l2.length) = (l1.drop (l1.length - l2.length)).length) := e
    clear e ho
    go_wp2_with fail
    · rename_i hcap
      rw [E.out]
      refine (equal_c _ _ _ _ _ _ _ (by simp; omega) (by simp; omega) (.inl (List.eq_nil_of_length_eq_zero (by simp; omega))) hz2).mono ?_; rintro e w3 ⟨rfl, hb3⟩
      rw [decide_eq_decide.2 (eq_comm.trans List.suffix_iff_eq_drop.symm)]
      go_wp2
      go_ret
      exact ⟨rfl, bel_trans B hb3⟩
    · rename_i hcap
      rw [E.out]
      refine (equal_c _ _ _ _ _ _ _ (by simp; omega) (by simp; omega) (.inr ⟨g, _, rfl, ?hl⟩) hz2).mono ?_
      case hl =>
        intro j hj
        rw [Hc.out _ (by simp at hj; omega)]
        simp [List.getD]
      rintro e w3 ⟨rfl, hb3⟩
      rw [decide_eq_decide.2 (eq_comm.trans List.suffix_iff_eq_drop.symm)]
      go_wp2
      go_ret
      exact ⟨rfl, bel_trans B hb3⟩

theorem under_c (s z : ByteArray) (w : World) (hs : s.size ≤ maxLen) (hz : z.size ≤ maxLen) :
    Calls Try.prog 16 #[.string s, .string z] w fun e w' => e = .returned (.bool (underL (bs s) (bs z))) ∧ Below w.heap.size w w' := by
  unfold underL
  cases h1 : mayL (bs s) with
  | false => exact under_no s z w hs hz (.inl h1)
  | true =>
    cases h2 : mayL (bs z) with
    | false => exact under_no s z w hs hz (.inr (.inl h2))
    | true =>
      by_cases h3 : (labsL (bs z)).length ≤ (labsL (bs s)).length
      · exact under_some s z w hs hz h1 h2 h3
      · have : decide (labsL (bs z) <:+ labsL (bs s)) = false := by
          rw [decide_eq_false_iff_not]; intro h; exact h3 h.length_le
        rw [this]
        exact under_no s z w hs hz (.inr (.inr (by omega)))

end Go.Proofs.Ytcacfllfgbofeaa
