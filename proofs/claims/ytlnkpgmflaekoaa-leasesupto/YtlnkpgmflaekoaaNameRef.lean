/-
  Contracts of the references NameMay, Labels and Under, and of the laws' SpoilTexts: what each call returns.
-/
import Derived.Test.YtlnkpgmflaekoaaNameParts
namespace Go.Proofs.Ytlnkpgmflaekoaa
open Go.ChangeShapes Go.WideShapes Go.ChangeAt Go.RowKit Go.Pin Go.PlainAid

theorem mem_len (l x : List UInt8) (h : x ∈ split l) : x.length ≤ l.length := by
  induction l generalizing x with
  | nil => simp [split] at h; subst h; simp
  | cons c l ih =>
    by_cases hc : c = 46
    · subst hc
      rw [split_dot] at h
      rcases List.mem_cons.1 h with rfl | h
      · simp
      · have := ih x h; simp; omega
    · obtain ⟨p, ps, h1, h2⟩ := split_cons c l hc
      rw [h2] at h
      rcases List.mem_cons.1 h with rfl | h
      · have := ih p (by rw [h1]; simp); simp; omega
      · have := ih x (by rw [h1]; exact List.mem_cons_of_mem _ h); simp; omega
theorem split_len (l : List UInt8) : (split l).length ≤ l.length + 1 := by
  induction l with
  | nil => simp [split]
  | cons c l ih =>
    by_cases hc : c = 46
    · subst hc; rw [split_dot]; simp; omega
    · obtain ⟨p, ps, h1, h2⟩ := split_cons c l hc
      rw [h2]; rw [h1] at ih; simp at ih ⊢; omega

theorem Texts.base {w : World} {b b' : Nat} {v : Value} {ls : List (List UInt8)} (h : Texts w b v ls) (hb : b' ≤ b) : Texts w b' v ls := by
  obtain ⟨h1, h2⟩ := h
  refine ⟨h1, ?_⟩
  rcases h2 with h2 | ⟨g, cap, cur, hv, hg, r⟩
  · exact .inl h2
  · exact .inr ⟨g, cap, cur, hv, Nat.le_trans hb hg, r⟩

theorem nameMay_c (s : ByteArray) (w : World) (hs : s.size ≤ 1048576) : Calls Try.prog 16 #[.string s] w fun e w' => e = .returned (.bool (mayL (bs s))) ∧ Below w.heap.size w w' := by
  by_cases h0 : s.size = 0
  · have hb : bs s = [] := List.eq_nil_of_length_eq_zero (by rw [length_bs]; exact h0)
    rw [hb, mayL_nil]
    have he := empty_yes h0
    clear h0 hb
    go_enter Try.func16, Try.ntmps16
    go_wp2
    go_ret
    exact ⟨rfl, Below.refl _ _⟩
  · have he := empty_no h0
    have hne : bs s ≠ [] := by intro e; apply h0; rw [← length_bs, e]; rfl
    have HM : Hid (mayL (bs s) = (decide ((split (bs s)).length ≤ 8) && (split (bs s)).all okL)) := by unfold Hid mayL; simp [hne]
    have HC : Hid (∀ w, Calls Try.prog 19 #[.string s] w fun e w' => (∃ v, e = .returned v ∧ Texts w' w.heap.size v (split (bs s))) ∧ Below w.heap.size w w') := fun w => parts_c s w hs
    have hpl : (split (bs s)).length ≤ 1048577 := by have := split_len (bs s); rw [length_bs] at this; omega
    have HS : Hid (∀ x ∈ split (bs s), x.length ≤ 1048576) := fun x hx => by have := mem_len (bs s) x hx; rw [length_bs] at this; omega
    generalize split (bs s) = ps at *
    generalize mayL (bs s) = V at *
    clear h0 hne
    go_enter Try.func16, Try.ntmps16
    go_wp2_with fail
    refine (HC.out _).mono ?_; rintro e w1 ⟨⟨v, rfl, ho⟩, hb1⟩
    obtain ⟨a, cap, rfl, hl⟩ := ho.lies
    have HL : Hid (Lies w1 a ps) := hl
    clear hl ho
    go_wp2_with fail
    go_loopw [4] (fun i wr => ∃ j : Nat, wr = w1 ∧ j ≤ ps.length ∧ i = .int .i64 j ∧ Hid (∀ i, i < j → okL (ps.getD i []) = true)) (fun i _ => ps.length - (intOf i).toNat)
    case atStart => exact ⟨0, rfl, Nat.zero_le _, rfl, fun i hi => by omega⟩
    case round =>
      obtain ⟨j, rfl, hj, rfl, hall⟩ := hrel
      by_cases hlt : j < ps.length
      · obtain ⟨g, o, rfl, hc⟩ := HL.out.resolve_left (by intro e; subst e; simp at hlt)
        have hce := hc j hlt
        have hxs := HS.out _ (getD_mem ps j hlt)
        have hm := getD_mem ps j hlt
        have Hm : Hid (ps.getD j [] ∈ ps) := hm
        generalize hx : ps.getD j [] = x at *
        have Hx : Hid (ps.getD j [] = x) := hx
        clear hc hx hm
        go_wp2_with fail
        refine (labelMay_c (mk x) _ (by rw [size_mk]; unfold maxLen; omega)).mono ?_; rintro e w2 ⟨rfl, rfl⟩
        rw [bs_mk]
        cases hok : okL x with
        | false =>
          have HF : Hid (V = false) := by
            unfold Hid
            rw [HM.out]
            have : ps.all okL = false := by rw [List.all_eq_false]; exact ⟨x, Hm.out, by rw [hok]; simp⟩
            rw [this, Bool.and_false]
          clear hok
          go_wp2
          go_ret
          exact ⟨ret_bool HF.out.symm, hb1⟩
        | true =>
          have Hok : Hid (okL x = true) := hok
          clear hok
          go_wp2
          go_roundw
          case rel => exact ⟨j + 1, trivial, by omega, by go_num, fun i hi => by by_cases e : i = j; (subst e; rw [Hx.out]; exact Hok.out); exact hall.out i (by omega)⟩
          case measure => simp [intOf]; omega
      · obtain rfl : j = ps.length := by omega
        have HF : Hid (V = decide ((ps.length : Int) ≤ 8)) := by
          unfold Hid
          rw [HM.out]
          have : ps.all okL = true := by
            rw [List.all_eq_true]
            intro x hx
            obtain ⟨i, hi, rfl⟩ := List.getElem_of_mem hx
            have := hall.out i hi
            simpa [List.getD, hi] using this
          rw [this, Bool.and_true, Bool.eq_iff_iff]
          simp; omega
        go_wp2
        go_ret
        exact ⟨ret_bool HF.out.symm, hb1⟩


/-- What the reference of Under asks of the letters. -/
theorem under_k (s z : ByteArray) (h1 : mayL (bs s) = true) (h2 : mayL (bs z) = true) (hz : z.size ≠ 0) (hne : s ≠ z) :
    underL (bs s) (bs z) = true ↔ ∃ k : Nat, k + z.size = s.size ∧ 2 ≤ k ∧ s.extract k s.size = z ∧ bt s (k - 1) = 46 := by
  have hz0 : bs z ≠ [] := by intro e; apply hz; rw [← length_bs, e]; rfl
  have hne' : bs s ≠ bs z := fun e => hne (bs_inj e)
  simp only [underL, h1, h2, Bool.true_and, decide_eq_true_eq]
  rw [under_letters h1 h2 hz0 hne']
  constructor
  · rintro ⟨a, ha, hs⟩
    have hlen : s.size = a.length + 1 + z.size := by rw [← length_bs, ← length_bs z, hs]; simp; omega
    refine ⟨a.length + 1, by omega, by omega, ?_, ?_⟩
    · rw [(extract_front a (bs z) s hs).2, mk_bs]
    · have hj : a.length < s.size := by omega
      have hj2 : a.length < (bs s).length := by rw [length_bs]; exact hj
      rw [Nat.add_sub_cancel, bt_is s a.length hj hj2]
      have : (bs s)[a.length] = 46 := by
        have h3 : (bs s)[a.length]? = some 46 := by rw [hs]; simp
        rw [List.getElem?_eq_getElem hj2] at h3
        exact Option.some.inj h3
      rw [this]; rfl
  · rintro ⟨k, hk, hk2, he, hb⟩
    have hj : k - 1 < s.size := by omega
    have hj2 : k - 1 < (bs s).length := by rw [length_bs]; exact hj
    rw [bt_is s (k - 1) hj hj2] at hb
    have hc := (dot_iff _).2 hb
    refine ⟨(bs s).take (k - 1), by rw [List.length_take, length_bs]; omega, ?_⟩
    have e1 := drop_split (bs s) 0 (k - 1) (Nat.zero_le _) hj2
    rw [hc, List.drop_zero, Nat.sub_zero, show k - 1 + 1 = k by omega] at e1
    have e2 : (bs s).drop k = bs z := by
      have h3 := congrArg bs he
      rw [extract_mk, bs_mk, List.take_of_length_le (by rw [List.length_drop, length_bs]; omega)] at h3
      exact h3
    rw [e2] at e1
    exact e1



end Go.Proofs.Ytlnkpgmflaekoaa
