/-
  Contracts of package fqdn's parts of Get: a whole text as one name, flags; every text.
-/
import Derived.Test.YteaediobcjednaaTakeMore
import Derived.Test.YteaediobcjednaaFqdnPut
import Derived.Test.YteaediobcjednaaBeFacts
namespace Go.Proofs.Yteaediobcjednaa
open Go.ChangeShapes Go.WideShapes Go.ChangeAt Go.RowKit Go.Pin Go.PlainAid

theorem bs_behind (s : ByteArray) (k : Nat) : bs (s.extract k s.size) = (bs s).drop k := by
  have h : bs (s.extract k s.size) = ((bs s).drop k).take (s.size - k) := by simp [bs, ByteArray.data_extract]
  rw [h, List.take_of_length_le (by rw [List.length_drop, length_bs]; omega)]
/-- A text's front. -/
def front0 : Tk := ⟨0, false⟩
theorem front_at (w : World) (s : ByteArray) (t : TypeId) : TkAt (w.alloc (.cells #[.string s, .int .i64 0, .bool false] t)) w.heap.size s front0 :=
  ⟨new_cell _ _ _ _ _ rfl, new_cell _ _ _ _ _ rfl, new_cell _ _ _ _ _ rfl, fun _ => new_frozen _ _ _ _, by simp, (fun _ => ⟨Int.le_refl _, Int.natCast_nonneg _⟩), ⟨by show (_ : Int) ≤ 0; omega, by show (0 : Int) ≤ _; omega⟩⟩
theorem from_0 (s : ByteArray) (w : World) : Calls Try.prog 22 #[.string s, .int .i64 0] w fun e w' => e = .returned (.agg #[.string s, .int .i64 0, .bool false]) ∧ Below w.heap.size w w' := by
  have h := from_c s 0 w
  have e : (decide ((0 : Int) < 0) || decide ((s.size : Int) < 0)) = false := by simp
  rw [e] at h
  exact h
/-- The name that whole tells. -/
def wholeN (t : ByteArray) : ByteArray := (nameT t front0).1
theorem whole_is (t : ByteArray) : wholeL (bs t) = if !(nameT t front0).2.f && decide (restN t (nameT t front0).2 = 0) then some (bs (wholeN t)) else none := by
  have hn : nameT t front0 = if (getL (bs t) 0).2.2 = 0 then (mk (getL (bs t) 0).1, ⟨(getL (bs t) 0).2.1, false⟩) else (⟨#[]⟩, ⟨0, true⟩) := rfl
  unfold wholeN wholeL wh
  rw [hn]
  by_cases h0 : (getL (bs t) 0).2.2 = 0
  · have he := get_ends (s := bs t) (at_ := 0) (n := (getL (bs t) 0).1) (e := (getL (bs t) 0).2.1) (by rw [← h0])
    rw [length_bs] at he ⊢
    rw [if_pos h0]
    by_cases h1 : (getL (bs t) 0).2.1 = (t.size : Int)
    · rw [if_pos ⟨h0, h1⟩]
      simp [restN, h1, bs_mk]
    · rw [if_neg (fun h => h1 h.2)]
      have : ¬ (t.size : Int) - (getL (bs t) 0).2.1 ≤ 0 := by omega
      simp [restN]
      omega
  · rw [if_neg h0, if_neg (fun h => h0 h.1)]
    simp
theorem whole_c (t : ByteArray) (w : World) (hs : t.size ≤ 1125899906842624) : Calls Try.prog 39 #[.string t] w fun e w' => e = .returned (.tuple #[.string (wholeN t), .bool (wholeL (bs t)).isSome]) ∧ Below w.heap.size w w' := by
  have hw := whole_is t
  have hI : (wholeL (bs t)).isSome = (!(nameT t front0).2.f && decide (restN t (nameT t front0).2 = 0)) := by
    rw [hw]; cases !(nameT t front0).2.f && decide (restN t (nameT t front0).2 = 0) <;> rfl
  rw [hI]
  clear hw hI
  have HF : Hid (∀ w, _) := fun w => from_0 t w
  have HN : Hid (∀ b w, TkAt w b t front0 → _) := fun b w h => name_c b t front0 w hs h
  have HO : Hid (∀ b w, TkAt w b t (nameT t front0).2 → _) := fun b w h => ok_c b t (nameT t front0).2 w h
  have HL : Hid (∀ b w, TkAt w b t (nameT t front0).2 → _) := fun b w h => left_c b t (nameT t front0).2 w h hs
  have eN : (nameT t front0).1 = wholeN t := rfl
  rw [eN] at HN
  generalize (nameT t front0).2 = y at *
  generalize wholeN t = N at *
  have hq : Hid (((restN t y : Int) == 0) = decide (restN t y = 0)) := by show _ = _; rw [Bool.eq_iff_iff]; simp
  generalize decide (restN t y = 0) = D at *
  clear hs eN
  obtain ⟨a, f⟩ := y
  simp only at HO HL hq ⊢
  generalize (restN t ⟨a, f⟩ : Int) = R at *
  cases f
  · simp only [Bool.not_false, Bool.true_and]
    go_enter Try.func39, Try.ntmps39
    go_wp2_with fail
    refine (HF.out _).mono ?_; rintro e w1 ⟨rfl, hb1⟩
    have T2 : Hid (TkAt (w1.alloc (.cells #[.string t, .int .i64 0, .bool false] 54)) w1.heap.size t front0) := front_at w1 t _
    have B2 : Hid (Below w.heap.size w (w1.alloc (.cells #[.string t, .int .i64 0, .bool false] 54))) := hb1.alloc hb1.size _
    have hle := hb1.size
    clear hb1 HF
    go_wp2_with fail
    refine (HN.out _ _ T2.out).mono ?_; rintro e w3 ⟨rfl, hT, hU⟩
    have T3 : Hid (_) := hT
    have B3 : Hid (Below w.heap.size w w3) := B2.out.trans (hU.bel.mono hle)
    clear hT hU T2 B2 HN
    go_wp2_with (first
      | (go_at_call 25; refine (HO.out _ _ T3.out).mono ?_; rintro e w4 ⟨rfl, rfl⟩)
      | (go_at_call 38; refine (HL.out _ _ T3.out).mono ?_; rintro e w5 ⟨rfl, hb5⟩; have B5 : Hid (Below w.heap.size w w5) := bel_trans B3.out hb5; clear hb5)
      | fail)
    go_ret2
    have hq' := hq.out
    subst hq'
    exact ⟨rfl, B5.out⟩
  · simp only [Bool.not_true, Bool.false_and]
    go_enter Try.func39, Try.ntmps39
    go_wp2_with fail
    refine (HF.out _).mono ?_; rintro e w1 ⟨rfl, hb1⟩
    have T2 : Hid (TkAt (w1.alloc (.cells #[.string t, .int .i64 0, .bool false] 54)) w1.heap.size t front0) := front_at w1 t _
    have B2 : Hid (Below w.heap.size w (w1.alloc (.cells #[.string t, .int .i64 0, .bool false] 54))) := hb1.alloc hb1.size _
    have hle := hb1.size
    clear hb1 HF
    go_wp2_with fail
    refine (HN.out _ _ T2.out).mono ?_; rintro e w3 ⟨rfl, hT, hU⟩
    have T3 : Hid (_) := hT
    have B3 : Hid (Below w.heap.size w w3) := B2.out.trans (hU.bel.mono hle)
    clear hT hU T2 B2 HN
    go_wp2_with (first
      | (go_at_call 25; refine (HO.out _ _ T3.out).mono ?_; rintro e w4 ⟨rfl, rfl⟩)
      | fail)
    go_ret2
    exact ⟨rfl, B3.out⟩

/-! ### flags -/
def flagT (s : ByteArray) (x : Tk) : Int × Tk := ((numT s 1 x).1, (textT s 2 (mustT (mayF (numT s 1 x).1) (numT s 1 x).2)).2)
theorem flags_c (b : Nat) (s : ByteArray) (x : Tk) (w : World) (hs : s.size ≤ 1125899906842624) (h : TkAt w b s x) :
    Calls Try.prog 23 #[.pointer (some ⟨b, 0, none⟩)] w fun e w' => e = .returned (.int .i64 (flagT s x).1) ∧ TkAt w' b s (flagT s x).2 ∧ Turn b w w' := by
  unfold flagT
  have HN : Hid (∀ w, TkAt w b s x → _) := fun w h => number_c b s x 1 w (.inl rfl) hs h
  have HY : Hid (∀ w, _) := fun w => fqMay_c (numT s 1 x).1 w
  have HM : Hid (∀ w, TkAt w b s (numT s 1 x).2 → _) := fun w h => must_c b s (numT s 1 x).2 (mayF (numT s 1 x).1) w h
  have HX : Hid (∀ w, TkAt w b s (mustT (mayF (numT s 1 x).1) (numT s 1 x).2) → _) := fun w h => text_c b s (mustT (mayF (numT s 1 x).1) (numT s 1 x).2) 2 w hs (by omega) h
  generalize mustT (mayF (numT s 1 x).1) (numT s 1 x).2 = x2 at *
  generalize (numT s 1 x).1 = v at *
  generalize (numT s 1 x).2 = x1 at *
  generalize (textT s 2 x2).2 = x3 at *
  generalize (textT s 2 x2).1 = t3 at *
  generalize mayF v = m at *
  have H : Hid (TkAt w b s x) := h
  have lt := h.lt
  clear h hs
  go_enter Try.func23, Try.ntmps23
  go_wp2_with fail
  refine (HN.out _ H.out).mono ?_; rintro e w1 ⟨rfl, hT1, hU1⟩
  have T1 : Hid (TkAt w1 b s x1) := hT1
  have U1 : Hid (Turn b w w1) := hU1
  have lt1 := hT1.lt
  clear hT1 hU1 H HN
  go_wp2_with fail
  go_region_held3 (fun _ => True) (first | exact trivial) (first
    | (go_at_call 16; refine (HY.out _).mono ?_; rintro e w2 ⟨rfl, rfl⟩)
    | (go_at_call 36; refine (HM.out _ (T1.out.below (below_drewN (Below.refl _ _) 1) lt1)).mono ?_; rintro e w3 ⟨rfl, hT3, hU3⟩))
  have T3 : Hid (TkAt w3 b s x2) := hT3
  have U3 : Hid (Turn b w w3) := U1.out.trans ((Turn.of_below (below_drewN (Below.refl _ _) 1) lt1).trans hU3)
  clear hT3 hU3 T1 U1 HM HY
  go_wp2_with fail
  refine (HX.out _ T3.out).mono ?_; rintro e w4 ⟨rfl, hT4, hU4⟩
  go_wp2
  go_ret
  exact ⟨rfl, hT4, U3.out.trans hU4⟩

/-! ### what is left -/
def restF (s : ByteArray) (x : Tk) : ByteArray × Tk := match restL (bs (restT s x).1) with
  | some n => (mk n, (restT s x).2)
  | none => (⟨#[]⟩, mustT false (restT s x).2)
theorem rest_3 (s : ByteArray) (x : Tk) : restF s x =
    if (wholeL (bs (restT s x).1)).isSome then (wholeN (restT s x).1, (restT s x).2)
    else if (wholeL (bs ((restT s x).1 ++ ⟨#[0]⟩))).isSome then (wholeN ((restT s x).1 ++ ⟨#[0]⟩), (restT s x).2)
    else (⟨#[]⟩, mustT false (restT s x).2) := by
  have hN : ∀ t : ByteArray, ∀ n, wholeL (bs t) = some n → mk n = wholeN t := by
    intro t n h
    rw [whole_is t] at h
    split at h
    · simp only [Option.some.injEq] at h; rw [← h, mk_bs]
    · cases h
  have hb : bs ((restT s x).1 ++ ⟨#[0]⟩) = bs (restT s x).1 ++ [0] := by simp [bs]
  unfold restF restL
  rw [hb]
  cases h1 : wholeL (bs (restT s x).1) with
  | some n => simp [hN _ n h1]
  | none =>
    cases h2 : wholeL (bs (restT s x).1 ++ [0]) with
    | some n => simp [hN _ n (by rw [hb]; exact h2)]
    | none => simp

end Go.Proofs.Yteaediobcjednaa
