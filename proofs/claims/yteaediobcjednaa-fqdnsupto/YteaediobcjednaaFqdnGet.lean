/-
  Contracts of package fqdn's Get: what is left as one name; every text.
-/
import Derived.Test.YteaediobcjednaaFqdnWhole
namespace Go.Proofs.Yteaediobcjednaa
open Go.ChangeShapes Go.WideShapes Go.ChangeAt Go.RowKit Go.Pin Go.PlainAid

set_option maxRecDepth 100000 in
set_option maxHeartbeats 2000000 in
theorem rest_c (b : Nat) (s : ByteArray) (x : Tk) (w : World) (hs : s.size ≤ 281474976710656) (h : TkAt w b s x) :
    Calls Try.prog 24 #[.pointer (some ⟨b, 0, none⟩)] w fun e w' => e = .returned (.string (restF s x).1) ∧ TkAt w' b s (restF s x).2 ∧ Turn b w w' := by
  rw [rest_3]
  have HL : Hid (∀ w, TkAt w b s x → _) := fun w h => left_c b s x w h (by omega)
  have hrn : restN s x ≤ s.size := by
    unfold restN
    cases hf : x.f with
    | true => simp
    | false => have := h.rg hf; rw [if_neg (by simp)]; omega
  have HX : Hid (∀ w, TkAt w b s x → _) := fun w h => text_c b s x (restN s x) w (by omega) (by omega) h
  have hsz := rest_size s x
  change Hid (∀ w, TkAt w b s x → Calls Try.prog _ _ w fun e w' => e = .returned (.string (restT s x).1) ∧ TkAt w' b s (restT s x).2 ∧ Turn b w w') at HX
  generalize restT s x = RT at *
  obtain ⟨L, x1⟩ := RT
  simp only at HX hsz ⊢
  have h1 : (L ++ (⟨#[0]⟩ : ByteArray)).size ≤ 1125899906842624 := by rw [ByteArray.size_append]; show L.size + 1 ≤ _; omega
  obtain ⟨L2, hL2⟩ : ∃ L2, L ++ (⟨#[0]⟩ : ByteArray) = L2 := ⟨_, rfl⟩
  rw [hL2] at h1 ⊢
  have HW1 : Hid (∀ w, _) := fun w => whole_c L w (by omega)
  have HW2 : Hid (∀ w, _) := fun w => whole_c L2 w h1
  have HM : Hid (∀ w, TkAt w b s x1 → _) := fun w h => must_c b s x1 false w h
  have hsum : (L.size : Int) + 1 ≤ 281474976710657 := by omega
  generalize (wholeL (bs L)).isSome = i1 at *
  generalize (wholeL (bs L2)).isSome = i2 at *
  generalize wholeN L = N1 at *
  generalize wholeN L2 = N2 at *
  generalize mustT false x1 = x2 at *
  generalize restN s x = rn at *
  have H : Hid (TkAt w b s x) := h
  have lt := h.lt
  have HL1 : Hid (Calls Try.prog 38 #[.pointer (some ⟨b, 0, none⟩)] w.drew fun e w' => e = .returned (.int .i64 rn) ∧ Below w.heap.size w w') := (HL.out _ (H.out.below (below_drewN (Below.refl _ _) 1) lt)).mono fun e w' ⟨h1, h2⟩ => ⟨h1, bel_trans (below_drewN (Below.refl _ _) 1) h2⟩
  obtain ⟨A, hA⟩ : ∃ A, A = (if i1 = true then (N1, x1) else if i2 = true then (N2, x1) else ((⟨#[]⟩ : ByteArray), x2)) := ⟨_, rfl⟩
  rw [← hA]
  have HA : Hid (A = (if i1 = true then (N1, x1) else if i2 = true then (N2, x1) else ((⟨#[]⟩ : ByteArray), x2))) := hA
  clear h hs hrn hsz h1 HL hA
  go_enter Try.func24, Try.ntmps24
  go_wp2_with fail
  go_region_held3 (fun _ => True) (first | exact trivial) (first
    | (go_at_call 38; refine HL1.out.mono ?_; rintro e w1 ⟨rfl, hb1⟩)
    | (go_at_call 37; refine (HX.out _ (H.out.below hb1 lt)).mono ?_; rintro e w2 ⟨rfl, hT2, hU2⟩))
  have U2 : Hid (Turn b w w2) := (Turn.of_below hb1 lt).trans hU2
  have T2 : Hid (TkAt w2 b s x1) := hT2
  have lt2 := hT2.lt
  clear hT2 hU2 hb1 HL1 HX H
  go_wp2_with fail
  have T3 : Hid (TkAt (w2.alloc (.cells #[.string L, .string L2] 9)) b s x1) := T2.out.below ((Below.refl _ _).alloc (Nat.le_refl _) _) lt2
  have U3 : Hid (Turn b w (w2.alloc (.cells #[.string L, .string L2] 9))) := U2.out.trans (Turn.of_below ((Below.refl _ _).alloc (Nat.le_refl _) _) lt2)
  have c0 : (w2.alloc (.cells #[.string L, .string L2] 9)).cell? ⟨w2.heap.size, 0, none⟩ = some (.string L) := new_cell _ _ _ _ _ rfl
  have c1 : (w2.alloc (.cells #[.string L, .string L2] 9)).cell? ⟨w2.heap.size, 1, none⟩ = some (.string L2) := new_cell _ _ _ _ _ rfl
  have lt3 : w2.heap.size < (w2.alloc (.cells #[.string L, .string L2] 9)).heap.size := by simp
  generalize w2.alloc (.cells #[.string L, .string L2] 9) = w3 at *
  have hz : w2.heap.size ≠ b := by omega
  clear T2 U2
  refine wp_loop_rounds 3 ?_
  rw [rounds_succ]
  go_wp2_with fail
  refine (HW1.out _).mono ?_; rintro e w4 ⟨rfl, hb4⟩
  have T4 : Hid (TkAt w4 b s x1) := T3.out.below hb4 T3.out.lt
  have U4 : Hid (Turn b w w4) := U3.out.trans (Turn.of_below hb4 T3.out.lt)
  have d1 := (hb4.cell (p := ⟨w2.heap.size, 1, none⟩) lt3).trans c1
  clear hb4 c0 c1 T3 U3 HW1
  cases i1
  · go_wp2_with fail
    rw [rounds_succ]
    go_wp2_with fail
    refine (HW2.out _).mono ?_; rintro e w5 ⟨rfl, hb5⟩
    have T5 : Hid (TkAt w5 b s x1) := T4.out.below hb5 T4.out.lt
    have U5 : Hid (Turn b w w5) := U4.out.trans (Turn.of_below hb5 T4.out.lt)
    clear hb5 d1 T4 U4 HW2
    cases i2
    · go_wp2_with fail
      rw [rounds_succ]
      go_wp2_with fail
      refine (HM.out _ T5.out).mono ?_; rintro e w6 ⟨rfl, hT6, hU6⟩
      go_wp2
      go_ret
      rw [HA.out]
      exact ⟨rfl, hT6, U5.out.trans hU6⟩
    · go_wp2
      go_ret
      rw [HA.out]
      exact ⟨rfl, T5.out, U5.out⟩
  · go_wp2
    go_ret
    rw [HA.out]
    exact ⟨rfl, T4.out, U4.out⟩

/-! ### Get -/
def fqT (s : ByteArray) : Int × ByteArray × Bool := ((flagT s front0).1, (restF s (flagT s front0).2).1, (restF s (flagT s front0).2).2.f)
def fqG (r : Option (Int × List UInt8)) : Ending := match r with
  | some q => .returned (.tuple #[.int .i64 q.1, .string (mk q.2), .int .i64 0])
  | none => .returned (.tuple #[.int .i64 0, .string ⟨#[]⟩, .int .i64 800])
theorem restF_f (s : ByteArray) (x : Tk) (h : x.f = true) : (restF s x).2.f = true := by
  have hr : restT s x = (⟨#[]⟩, x) := by unfold restT textT; rw [if_pos h]
  unfold restF
  rw [hr]
  split
  · exact h
  · simp [mustT]
theorem flagT_f (s : ByteArray) (y : Tk) (h : y.f = true) : (textT s 2 y).2.f = true := by unfold textT; rw [if_pos h]; exact h
theorem fqT_is (s : ByteArray) : getF (bs s) = cond (fqT s).2.2 none (some ((fqT s).1, bs (fqT s).2.1)) := by
  by_cases h1 : s.size < 1
  · have hn : numT s 1 front0 = (0, ⟨0, true⟩) := by
      have : getB s 0 1 = (0, 101) := by unfold getB; rw [if_neg (by omega), if_pos (by omega)]
      simp [numT, front0, this]
    have : (fqT s).2.2 = true := by
      unfold fqT flagT
      rw [hn]
      exact restF_f _ _ (flagT_f _ _ (by simp [mustT]))
    rw [this, cond_true]
    exact getF_short (by rw [length_bs]; omega)
  · have hn : numT s 1 front0 = (num s 0 1, ⟨1, false⟩) := by
      have : getB s 0 1 = (num s 0 1, 0) := by unfold getB; rw [if_neg (by omega), if_neg (by omega)]; rfl
      simp [numT, front0, this]
    by_cases h3 : s.size < 3
    · have : (fqT s).2.2 = true := by
        unfold fqT flagT
        rw [hn]
        refine restF_f _ _ ?_
        unfold textT
        split
        · assumption
        · rw [if_neg]
          show ¬ ((2 : Nat) : Int) ≤ (s.size : Int) - 1
          omega
      rw [this, cond_true]
      exact getF_short (by rw [length_bs]; omega)
    · obtain ⟨c, a, b, t, hs⟩ : ∃ c a b t, bs s = c :: a :: b :: t := by
        have hl := length_bs s
        rcases hq : bs s with _ | ⟨c, _ | ⟨a, _ | ⟨b, t⟩⟩⟩
        · rw [hq] at hl; simp at hl; omega
        · rw [hq] at hl; simp at hl; omega
        · rw [hq] at hl; simp at hl; omega
        · exact ⟨c, a, b, t, rfl⟩
      have hc : num s 0 1 = (c.toNat : Int) := by
        have hb : bt s 0 = (c.toNat : Int) := by rw [bt_list, show s.data.toList = c :: a :: b :: t from hs]; rfl
        simp [num, hb]
      rw [hs, getF_cons]
      unfold fqT flagT
      rw [hn]
      simp only
      rw [hc]
      cases hm : mayF (c.toNat : Int) with
      | false =>
        rw [if_neg (by simp), restF_f _ _ (flagT_f _ _ (by simp [mustT])), cond_true]
      | true =>
        have hx : (textT s 2 (mustT true ⟨1, false⟩)).2 = ⟨3, false⟩ := by
          unfold textT mustT
          simp only [Bool.not_true, Bool.or_false, Bool.false_eq_true, if_false]
          rw [if_pos (by show ((2 : Nat) : Int) ≤ (s.size : Int) - 1; omega)]
          rfl
        have hr : restT s ⟨3, false⟩ = (s.extract 3 s.size, ⟨(s.size : Int), false⟩) := by
          have hN : restN s ⟨3, false⟩ = s.size - 3 := by
            unfold restN; rw [if_neg (by simp)]; show ((s.size : Int) - 3).toNat = _; omega
          unfold restT textT
          rw [hN, if_neg (by simp), if_pos (by show ((s.size - 3 : Nat) : Int) ≤ (s.size : Int) - 3; omega)]
          show (s.extract 3 (3 + (s.size - 3)), (⟨(3 : Int) + ((s.size - 3 : Nat) : Int), false⟩ : Tk)) = _
          rw [show 3 + (s.size - 3) = s.size by omega, show (3 : Int) + ((s.size - 3 : Nat) : Int) = s.size by omega]
        have ht : bs (s.extract 3 s.size) = t := by
          have : bs (s.extract 3 s.size) = (bs s).drop 3 := bs_behind s 3
          rw [this, hs]; rfl
        rw [if_pos rfl, hx]
        unfold restF
        rw [hr]
        simp only
        rw [ht]
        cases hq : restL t with
        | some n => simp [bs_mk]
        | none => simp [mustT]
set_option maxHeartbeats 1000000 in
theorem fGet_c (s : ByteArray) (w : World) (hs : s.size ≤ 281474976710656) : Calls Try.prog 9 #[.string s] w fun e w' => e = fqG (getF (bs s)) ∧ Below w.heap.size w w' := by
  rw [fqT_is s]
  have HF : Hid (∀ w, _) := fun w => from_0 s w
  have HN : Hid (∀ b w, TkAt w b s front0 → _) := fun b w h => flags_c b s front0 w (by omega) h
  have HR : Hid (∀ b w, TkAt w b s (flagT s front0).2 → _) := fun b w h => rest_c b s (flagT s front0).2 w hs h
  have HO : Hid (∀ b w, TkAt w b s (restF s (flagT s front0).2).2 → _) := fun b w h => ok_c b s (restF s (flagT s front0).2).2 w h
  simp only [fqT]
  generalize restF s (flagT s front0).2 = RF at *
  generalize flagT s front0 = FT at *
  obtain ⟨v, x1⟩ := FT
  obtain ⟨N, a, f⟩ := RF
  simp only at HR HO HN ⊢
  clear hs
  cases f
  all_goals
    simp only [cond_true, cond_false, fqG, mk_bs]
    go_enter Try.func9, Try.ntmps9
    go_wp2_with fail
    refine (HF.out _).mono ?_; rintro e w1 ⟨rfl, hb1⟩
    have T2 : Hid (TkAt (w1.alloc (.cells #[.string s, .int .i64 0, .bool false] 57)) w1.heap.size s front0) := front_at w1 s _
    have B2 : Hid (Below w.heap.size w (w1.alloc (.cells #[.string s, .int .i64 0, .bool false] 57))) := hb1.alloc hb1.size _
    have hle := hb1.size
    clear hb1 HF
    go_wp2_with fail
    refine (HN.out _ _ T2.out).mono ?_; rintro e w3 ⟨rfl, hT, hU⟩
    have T3 : Hid (_) := hT
    have B3 : Hid (Below w.heap.size w w3) := B2.out.trans (hU.bel.mono hle)
    clear hT hU T2 B2 HN
    go_wp2_with fail
    refine (HR.out _ _ T3.out).mono ?_; rintro e w4 ⟨rfl, hT, hU⟩
    have T4 : Hid (_) := hT
    have B4 : Hid (Below w.heap.size w w4) := B3.out.trans (hU.bel.mono hle)
    clear hT hU T3 B3 HR
    go_wp2_with fail
    refine (HO.out _ _ T4.out).mono ?_; rintro e w5 ⟨rfl, rfl⟩
    go_wp2
    go_ret3
    exact ⟨rfl, B4.out⟩

end Go.Proofs.Yteaediobcjednaa
