/-
  Proved here: pinfoldlaw2.NameUnder answers true for every three texts (P2.2: a name is under itself, under its parents, under the root; what is under something is under what that is under).
  Conditions: none but the row's own.
-/
import Derived.Test.YtcacfllfgbofeaaAwake2
import Derived.Test.YtcacfllfgbofeaaNameMore
import Derived.OpenShut
import Derived.ShutString
import Derived.ChangeOld
import Derived.SizedLaws
namespace Go.Proofs.Ytcacfllfgbofeaa.nameUnder
open Go.ChangeShapes Go.WideShapes Go.ChangeAt Go.RowKit Go.Pin Go.PlainAid
open Go.ChangeMaps (open_string shut_string)

theorem under_a {s z : List UInt8} (h : mayL s = false) : underL s z = false := by simp [underL, h]
theorem under_b {s z : List UInt8} (h : mayL z = false) : underL s z = false := by simp [underL, h]

theorem walk_no (a0 a1 a2 : ByteArray) (w : World) (m0 : Hid (a0.size ≤ maxLen)) (m1 : Hid (a1.size ≤ maxLen)) (m2 : Hid (a2.size ≤ maxLen)) (h : mayL (bs a0) = false ∨ mayL (bs a1) = false ∨ mayL (bs a2) = false) :
    Calls Try.prog 4 #[.string a0, .string a1, .string a2] w fun e w' => e = .returned (.bool true) ∧ Below w.heap.size w w' := by
  cases h0 : mayL (bs a0) with
  | false =>
    have H0 : Hid (mayL (bs a0) = false) := h0
    have U : Hid (underL (bs a0) (bs a1) = false) := under_a h0
    clear h h0
    go_enter Try.func4, Try.ntmps4
    go_wp2_with fail
    refine (awake_yes _).mono ?_; rintro e x1 ⟨rfl, B⟩
    go_wp2_with fail
    refine (may_is _ _ _ m0.out H0.out).mono ?_; rintro e x2 ⟨rfl, hb⟩
    replace B := bel_trans B hb
    clear hb
    go_wp2_with fail
    refine (under_is _ _ _ _ m0.out m1.out U.out).mono ?_; rintro e x3 ⟨rfl, hb⟩
    replace B := bel_trans B hb
    clear hb
    go_wp2
    go_ret
    exact ⟨rfl, B⟩
  | true =>
    have H0 : Hid (mayL (bs a0) = true) := h0
    cases h1 : mayL (bs a1) with
    | false =>
      have H1 : Hid (mayL (bs a1) = false) := h1
      have U : Hid (underL (bs a0) (bs a1) = false) := under_b h1
      clear h h0 h1
      go_enter Try.func4, Try.ntmps4
      go_wp2_with fail
      refine (awake_yes _).mono ?_; rintro e x1 ⟨rfl, B⟩
      go_wp2_with fail
      refine (may_is _ _ _ m0.out H0.out).mono ?_; rintro e x4 ⟨rfl, hb⟩
      replace B := bel_trans B hb
      clear hb
      go_wp2_with fail
      refine (may_is _ _ _ m1.out H1.out).mono ?_; rintro e x5 ⟨rfl, hb⟩
      replace B := bel_trans B hb
      clear hb
      go_wp2_with fail
      refine (under_is _ _ _ _ m0.out m1.out U.out).mono ?_; rintro e x6 ⟨rfl, hb⟩
      replace B := bel_trans B hb
      clear hb
      go_wp2
      go_ret
      exact ⟨rfl, B⟩
    | true =>
      have H1 : Hid (mayL (bs a1) = true) := h1
      have H2 : Hid (mayL (bs a2) = false) := by
        rcases h with h | h | h
        · rw [h0] at h; cases h
        · rw [h1] at h; cases h
        · exact h
      clear h h0 h1
      cases hu : underL (bs a0) (bs a1) with
      | false =>
        have U : Hid (underL (bs a0) (bs a1) = false) := hu
        clear hu
        go_enter Try.func4, Try.ntmps4
        go_wp2_with fail
        refine (awake_yes _).mono ?_; rintro e x1 ⟨rfl, B⟩
        go_wp2_with fail
        refine (may_is _ _ _ m0.out H0.out).mono ?_; rintro e x7 ⟨rfl, hb⟩
        replace B := bel_trans B hb
        clear hb
        go_wp2_with fail
        refine (may_is _ _ _ m1.out H1.out).mono ?_; rintro e x8 ⟨rfl, hb⟩
        replace B := bel_trans B hb
        clear hb
        go_wp2_with fail
        refine (may_is _ _ _ m2.out H2.out).mono ?_; rintro e x9 ⟨rfl, hb⟩
        replace B := bel_trans B hb
        clear hb
        go_wp2_with fail
        refine (under_is _ _ _ _ m0.out m1.out U.out).mono ?_; rintro e x10 ⟨rfl, hb⟩
        replace B := bel_trans B hb
        clear hb
        go_wp2
        go_ret
        exact ⟨rfl, B⟩
      | true =>
        have U : Hid (underL (bs a0) (bs a1) = true) := hu
        clear hu
        go_enter Try.func4, Try.ntmps4
        go_wp2_with fail
        refine (awake_yes _).mono ?_; rintro e x1 ⟨rfl, B⟩
        go_wp2_with fail
        refine (may_is _ _ _ m0.out H0.out).mono ?_; rintro e x11 ⟨rfl, hb⟩
        replace B := bel_trans B hb
        clear hb
        go_wp2_with fail
        refine (may_is _ _ _ m1.out H1.out).mono ?_; rintro e x12 ⟨rfl, hb⟩
        replace B := bel_trans B hb
        clear hb
        go_wp2_with fail
        refine (may_is _ _ _ m2.out H2.out).mono ?_; rintro e x13 ⟨rfl, hb⟩
        replace B := bel_trans B hb
        clear hb
        go_wp2_with fail
        refine (under_is _ _ _ _ m0.out m1.out U.out).mono ?_; rintro e x14 ⟨rfl, hb⟩
        replace B := bel_trans B hb
        clear hb
        go_wp2_with fail
        refine (may_is _ _ _ m0.out H0.out).mono ?_; rintro e x15 ⟨rfl, hb⟩
        replace B := bel_trans B hb
        clear hb
        go_wp2_with fail
        refine (may_is _ _ _ m1.out H1.out).mono ?_; rintro e x16 ⟨rfl, hb⟩
        replace B := bel_trans B hb
        clear hb
        go_wp2
        go_ret
        exact ⟨rfl, B⟩

/-- The last line of the law: what is under something is under what that is under. -/
theorem last_any (a b c : List UInt8) : ∃ u1 u2 u3, underL a b = u1 ∧ underL b c = u2 ∧ underL a c = u3 ∧ (u1 = false ∨ u1 = true ∧ u2 = false ∨ u1 = true ∧ u2 = true ∧ u3 = true) := by
  refine ⟨_, _, _, rfl, rfl, rfl, ?_⟩
  cases h1 : underL a b with
  | false => exact .inl rfl
  | true =>
    cases h2 : underL b c with
    | false => exact .inr (.inl ⟨rfl, rfl⟩)
    | true => exact .inr (.inr ⟨rfl, rfl, under_trans h1 h2⟩)

set_option maxHeartbeats 1600000 in
theorem walk_yes (a0 a1 a2 : ByteArray) (w : World) (m0 : Hid (a0.size ≤ maxLen)) (m1 : Hid (a1.size ≤ maxLen)) (m2 : Hid (a2.size ≤ maxLen)) (h0 : mayL (bs a0) = true) (h1 : mayL (bs a1) = true) (h2 : mayL (bs a2) = true) (hz : a0.size ≠ 0) :
    Calls Try.prog 4 #[.string a0, .string a1, .string a2] w fun e w' => e = .returned (.bool true) ∧ Below w.heap.size w w' := by
  have H0 : Hid (mayL (bs a0) = true) := h0
  have H1 : Hid (mayL (bs a1) = true) := h1
  have H2 : Hid (mayL (bs a2) = true) := h2
  have hne : bs a0 ≠ [] := by intro e; apply hz; rw [← length_bs, e]; rfl
  obtain ⟨ls, hls⟩ : ∃ ls, labsL (bs a0) = ls := ⟨_, rfl⟩
  have HL : Hid (labsL (bs a0) = ls) := hls
  have Hne : Hid (ls ≠ []) := by rw [← hls]; exact labsL_ne h0 hne
  have hl8 : ls.length ≤ 8 := by rw [← hls]; exact labsL_len _
  have hl1 : 1 ≤ ls.length := by cases hx : ls with | nil => exact absurd hx Hne.out | cons => simp
  have Hok : Hid (∀ x ∈ ls, okL x = true) := by intro x hx; rw [← hls] at hx; exact labsL_ok hx
  have HJ : Hid (mk (join ls) = a0) := by unfold Hid; rw [← hls, join_labs h0, mk_bs]
  have HP : Hid (∀ i, underL (bs a0) (join (ls.drop i)) = true) := by intro i; rw [← hls]; exact under_parent h0 i
  clear h0 h1 h2 hne hls hz
  obtain ⟨u1, u2, u3, e1, e2, e3, hu⟩ := last_any (bs a0) (bs a1) (bs a2)
  have E1 : Hid (underL (bs a0) (bs a1) = u1) := e1
  have E2 : Hid (underL (bs a1) (bs a2) = u2) := e2
  have E3 : Hid (underL (bs a0) (bs a2) = u3) := e3
  have HU : Hid (u1 = false ∨ u1 = true ∧ u2 = false ∨ u1 = true ∧ u2 = true ∧ u3 = true) := hu
  clear e1 e2 e3 hu
  go_enter Try.func4, Try.ntmps4
  go_wp2_with fail
  refine (awake_yes _).mono ?_; rintro e x1 ⟨rfl, B⟩
  go_wp2_with fail
  refine (may_is _ _ _ m0.out H0.out).mono ?_; rintro e x17 ⟨rfl, hb⟩
  replace B := bel_trans B hb
  clear hb
  go_wp2_with fail
  refine (may_is _ _ _ m1.out H1.out).mono ?_; rintro e x18 ⟨rfl, hb⟩
  replace B := bel_trans B hb
  clear hb
  go_wp2_with fail
  refine (may_is _ _ _ m2.out H2.out).mono ?_; rintro e x19 ⟨rfl, hb⟩
  replace B := bel_trans B hb
  clear hb
  go_wp2_with fail
  refine (labels_is _ _ _ m0.out HL.out).mono ?_; rintro e xl ⟨⟨v, rfl, ho⟩, hb⟩
  replace B := bel_trans B hb
  clear hb
  rcases ho.cases with ⟨_, he⟩ | ⟨g, cap, rfl, hn, hm, hg, hgs, hc, hf⟩
  · exact absurd he Hne.out
  have Hc : Hid (∀ j, j < ls.length → xl.cell? ⟨g, j, none⟩ = some (.string (mk (ls.getD j [])))) := hc
  clear hc hf ho
  go_wp2_with fail
  go_loopw [8, 9] (fun t i wr => ∃ (j : Nat) (T : ByteArray), j ≤ ls.length ∧ i = .int .i64 ((j : Int) - 1) ∧ t = .string T ∧ Hid (T = mk (join (ls.drop j))) ∧ Below w.heap.size w wr ∧ Below xl.heap.size xl wr) (fun _ i _ => (intOf i + 1).toNat)
  case atStart => exact ⟨ls.length, _, Nat.le_refl _, rfl, rfl, by simp [Hid]; rfl, B, Below.refl _ _⟩
  case round =>
    clear B
    obtain ⟨j, T, hj, rfl, rfl, hT, hnx, hn2⟩ := hrel
    by_cases hj0 : j = 0
    · subst hj0
      obtain rfl : T = a0 := by rw [hT.out, List.drop_zero, HJ.out]
      have hTT : (T.toList == T.toList) = true := by simp
      clear hn2 Hc
      rcases HU.out with rfl | ⟨rfl, rfl⟩ | ⟨rfl, rfl, rfl⟩
      · go_wp2_with fail
        refine (under_is _ _ true _ m0.out m0.out (under_self H0.out)).mono ?_; rintro e y1 ⟨rfl, hb⟩
        replace hnx := bel_trans hnx hb
        clear hb
        go_wp2_with fail
        refine (under_is _ ⟨#[]⟩ true _ m0.out (by decide) (under_root H0.out)).mono ?_; rintro e y2 ⟨rfl, hb⟩
        replace hnx := bel_trans hnx hb
        clear hb
        go_wp2_with fail
        refine (fold_is _ T _ m0.out (by rw [fold_may H0.out, mk_bs])).mono ?_; rintro e y3 ⟨rfl, hb⟩
        replace hnx := bel_trans hnx hb
        clear hb
        go_wp2_with fail
        refine (under_is _ _ _ _ m0.out m1.out E1.out).mono ?_; rintro e y4 ⟨rfl, hb⟩
        replace hnx := bel_trans hnx hb
        clear hb
        go_wp2
        go_ret
        exact ⟨rfl, hnx⟩
      · go_wp2_with fail
        refine (under_is _ _ true _ m0.out m0.out (under_self H0.out)).mono ?_; rintro e y1 ⟨rfl, hb⟩
        replace hnx := bel_trans hnx hb
        clear hb
        go_wp2_with fail
        refine (under_is _ ⟨#[]⟩ true _ m0.out (by decide) (under_root H0.out)).mono ?_; rintro e y2 ⟨rfl, hb⟩
        replace hnx := bel_trans hnx hb
        clear hb
        go_wp2_with fail
        refine (fold_is _ T _ m0.out (by rw [fold_may H0.out, mk_bs])).mono ?_; rintro e y3 ⟨rfl, hb⟩
        replace hnx := bel_trans hnx hb
        clear hb
        go_wp2_with fail
        refine (under_is _ _ _ _ m0.out m1.out E1.out).mono ?_; rintro e y4 ⟨rfl, hb⟩
        replace hnx := bel_trans hnx hb
        clear hb
        go_wp2_with fail
        refine (under_is _ _ _ _ m1.out m2.out E2.out).mono ?_; rintro e y5 ⟨rfl, hb⟩
        replace hnx := bel_trans hnx hb
        clear hb
        go_wp2
        go_ret
        exact ⟨rfl, hnx⟩
      · go_wp2_with fail
        refine (under_is _ _ true _ m0.out m0.out (under_self H0.out)).mono ?_; rintro e y1 ⟨rfl, hb⟩
        replace hnx := bel_trans hnx hb
        clear hb
        go_wp2_with fail
        refine (under_is _ ⟨#[]⟩ true _ m0.out (by decide) (under_root H0.out)).mono ?_; rintro e y2 ⟨rfl, hb⟩
        replace hnx := bel_trans hnx hb
        clear hb
        go_wp2_with fail
        refine (fold_is _ T _ m0.out (by rw [fold_may H0.out, mk_bs])).mono ?_; rintro e y3 ⟨rfl, hb⟩
        replace hnx := bel_trans hnx hb
        clear hb
        go_wp2_with fail
        refine (under_is _ _ _ _ m0.out m1.out E1.out).mono ?_; rintro e y4 ⟨rfl, hb⟩
        replace hnx := bel_trans hnx hb
        clear hb
        go_wp2_with fail
        refine (under_is _ _ _ _ m1.out m2.out E2.out).mono ?_; rintro e y5 ⟨rfl, hb⟩
        replace hnx := bel_trans hnx hb
        clear hb
        go_wp2_with fail
        refine (under_is _ _ _ _ m0.out m2.out E3.out).mono ?_; rintro e y6 ⟨rfl, hb⟩
        replace hnx := bel_trans hnx hb
        clear hb
        go_wp2
        go_ret
        exact ⟨rfl, hnx⟩
    · obtain ⟨k, rfl⟩ : ∃ k, j = k + 1 := ⟨j - 1, by omega⟩
      have hlt : k < ls.length := by omega
      have hce : wr.cell? ⟨g, k, none⟩ = some (.string (mk (ls.getD k []))) := (hn2.cell (by exact hgs)).trans (Hc.out k hlt)
      have hox := Hok.out _ (getD_mem ls k hlt)
      have hgw : g < wr.heap.size := Nat.lt_of_lt_of_le hgs hn2.size
      have Ht : Hid (ls.drop k = ls.getD k [] :: ls.drop (k + 1)) := drop_pred ls k hlt
      generalize ls.getD k [] = x at *
      have hx := okL_bounds hox
      have hxs : (mk x).size = x.length := size_mk x
      have hTs : T.size ≤ 72 := by
        have := join_len (ls.drop (k + 1)) (fun y hy => Hok.out y (List.mem_of_mem_drop hy))
        rw [List.length_drop] at this
        rw [hT.out, size_mk]
        omega
      clear hox
      rw [show (((k + 1 : Nat) : Int) - 1) = (k : Int) by omega]
      obtain ⟨V, hV⟩ : ∃ V, V = mk (join (ls.drop k)) := ⟨_, rfl⟩
      have hVs : Hid (V.size ≤ maxLen) := by
        have := join_len (ls.drop k) (fun y hy => Hok.out y (List.mem_of_mem_drop hy))
        rw [List.length_drop] at this
        unfold Hid maxLen
        rw [hV, size_mk]
        omega
      have HV1 : Hid (V = mk (join (ls.drop k))) := hV
      have HVu : Hid (underL (bs a0) (bs V) = true) := by unfold Hid; rw [hV, bs_mk]; exact HP.out k
      have hno : V ≠ a0 → underL (bs V) (bs a0) = false := by
        intro hva
        cases hh : underL (bs V) (bs a0) with
        | false => rfl
        | true => exact absurd (bs_inj (under_both hh HVu.out)) hva
      have HNo : Hid (V ≠ a0 → underL (bs V) (bs a0) = false) := hno
      by_cases hlast : k + 1 = ls.length
      · have hd : ls.drop (k + 1) = [] := List.drop_eq_nil_of_le (by omega)
        have hTe : T.toList.isEmpty = true := empty_yes (by rw [hT.out, hd]; rfl)
        have HV : Hid (mk x = V) := by unfold Hid; rw [hV, Ht.out, hd]; rfl
        clear hV hd hno
        go_wp2_with fail
        rw [HV.out]
        refine (under_is _ _ _ _ m0.out hVs.out HVu.out).mono ?_; rintro e y1 ⟨rfl, hb⟩
        replace hnx := bel_trans hnx hb
        replace hn2 := bel_trans hn2 hb
        clear hb hce
        by_cases hva : V = a0
        · have he := eq_yes hva
          clear hva
          go_wp2
          go_roundw
          case rel => exact ⟨k, V, by omega, by go_num, rfl, HV1, hnx, hn2⟩
          case measure => simp [intOf]
        · have he := eq_no hva
          have HF : Hid (underL (bs V) (bs a0) = false) := HNo.out hva
          clear hva
          go_wp2_with fail
          refine (under_is _ _ _ _ hVs.out m0.out HF.out).mono ?_; rintro e y2 ⟨rfl, hb⟩
          replace hnx := bel_trans hnx hb
          replace hn2 := bel_trans hn2 hb
          clear hb
          go_wp2
          go_roundw
          case rel => exact ⟨k, V, by omega, by go_num, rfl, HV1, hnx, hn2⟩
          case measure => simp [intOf]
      · have hd : ls.drop (k + 1) ≠ [] := by intro e; rw [List.drop_eq_nil_iff] at e; omega
        have hTe : T.toList.isEmpty = false := empty_no (by
          rw [hT.out, size_mk]
          intro e
          exact join_ne hd (fun y hy => Hok.out y (List.mem_of_mem_drop hy)) (List.eq_nil_of_length_eq_zero e))
        have HV : Hid (mk x ++ ⟨#[46]⟩ ++ T = V) := by
          unfold Hid
          rw [hV, Ht.out, join_cons _ _ hd, hT.out, show (⟨#[46]⟩ : ByteArray) = mk [46] from rfl, mk_append, mk_append, List.append_assoc]
          rfl
        clear hV hd hno
        go_wp2_with fail
        rw [HV.out]
        refine (under_is _ _ _ _ m0.out hVs.out HVu.out).mono ?_; rintro e y1 ⟨rfl, hb⟩
        replace hnx := bel_trans hnx hb
        replace hn2 := bel_trans hn2 hb
        clear hb hce
        by_cases hva : V = a0
        · have he := eq_yes hva
          clear hva
          go_wp2
          go_roundw
          case rel => exact ⟨k, V, by omega, by go_num, rfl, HV1, hnx, hn2⟩
          case measure => simp [intOf]
        · have he := eq_no hva
          have HF : Hid (underL (bs V) (bs a0) = false) := HNo.out hva
          clear hva
          go_wp2_with fail
          refine (under_is _ _ _ _ hVs.out m0.out HF.out).mono ?_; rintro e y2 ⟨rfl, hb⟩
          replace hnx := bel_trans hnx hb
          replace hn2 := bel_trans hn2 hb
          clear hb
          go_wp2
          go_roundw
          case rel => exact ⟨k, V, by omega, by go_num, rfl, HV1, hnx, hn2⟩
          case measure => simp [intOf]

set_option maxHeartbeats 800000 in
theorem walk_root (a1 a2 : ByteArray) (w : World) (m1 : Hid (a1.size ≤ maxLen)) (m2 : Hid (a2.size ≤ maxLen)) (h1 : mayL (bs a1) = true) (h2 : mayL (bs a2) = true) :
    Calls Try.prog 4 #[.string ⟨#[]⟩, .string a1, .string a2] w fun e w' => e = .returned (.bool true) ∧ Below w.heap.size w w' := by
  have H1 : Hid (mayL (bs a1) = true) := h1
  have H2 : Hid (mayL (bs a2) = true) := h2
  clear h1 h2
  obtain ⟨u1, u2, u3, e1, e2, e3, hu⟩ := last_any (bs ⟨#[]⟩) (bs a1) (bs a2)
  have E1 : Hid (underL (bs ⟨#[]⟩) (bs a1) = u1) := e1
  have E2 : Hid (underL (bs a1) (bs a2) = u2) := e2
  have E3 : Hid (underL (bs ⟨#[]⟩) (bs a2) = u3) := e3
  have HU : Hid (u1 = false ∨ u1 = true ∧ u2 = false ∨ u1 = true ∧ u2 = true ∧ u3 = true) := hu
  clear e1 e2 e3 hu
  rcases HU.out with rfl | ⟨rfl, rfl⟩ | ⟨rfl, rfl, rfl⟩
  · go_enter Try.func4, Try.ntmps4
    go_wp2_with fail
    refine (awake_yes _).mono ?_; rintro e x1 ⟨rfl, B⟩
    go_wp2_with fail
    refine (may_is _ true _ (by decide) (by decide)).mono ?_; rintro e x2 ⟨rfl, hb⟩
    replace B := bel_trans B hb
    clear hb
    go_wp2_with fail
    refine (may_is _ _ _ m1.out H1.out).mono ?_; rintro e x3 ⟨rfl, hb⟩
    replace B := bel_trans B hb
    clear hb
    go_wp2_with fail
    refine (may_is _ _ _ m2.out H2.out).mono ?_; rintro e x4 ⟨rfl, hb⟩
    replace B := bel_trans B hb
    clear hb
    go_wp2_with fail
    refine (labels_is _ [] _ (by decide) rfl).mono ?_; rintro e xl ⟨⟨v, rfl, ho⟩, hb⟩
    obtain ⟨a, cap, rfl⟩ := ho.form
    replace B := bel_trans B hb
    clear hb ho
    go_wp2_with fail
    refine wp_loop_rounds 1 ?_
    rw [rounds_succ]
    go_wp2_with fail
    refine (under_is _ _ true _ (by decide) (by decide) (by decide)).mono ?_; rintro e y1 ⟨rfl, hb⟩
    replace B := bel_trans B hb
    clear hb
    go_wp2_with fail
    refine (under_is _ _ true _ (by decide) (by decide) (by decide)).mono ?_; rintro e y2 ⟨rfl, hb⟩
    replace B := bel_trans B hb
    clear hb
    go_wp2_with fail
    refine (fold_is _ ⟨#[]⟩ _ (by decide) (by decide)).mono ?_; rintro e y3 ⟨rfl, hb⟩
    replace B := bel_trans B hb
    clear hb
    go_wp2_with fail
    refine (under_is _ _ _ _ (by decide) m1.out E1.out).mono ?_; rintro e y4 ⟨rfl, hb⟩
    replace B := bel_trans B hb
    clear hb
    go_wp2
    go_ret
    exact ⟨rfl, B⟩
  · go_enter Try.func4, Try.ntmps4
    go_wp2_with fail
    refine (awake_yes _).mono ?_; rintro e x1 ⟨rfl, B⟩
    go_wp2_with fail
    refine (may_is _ true _ (by decide) (by decide)).mono ?_; rintro e x2 ⟨rfl, hb⟩
    replace B := bel_trans B hb
    clear hb
    go_wp2_with fail
    refine (may_is _ _ _ m1.out H1.out).mono ?_; rintro e x3 ⟨rfl, hb⟩
    replace B := bel_trans B hb
    clear hb
    go_wp2_with fail
    refine (may_is _ _ _ m2.out H2.out).mono ?_; rintro e x4 ⟨rfl, hb⟩
    replace B := bel_trans B hb
    clear hb
    go_wp2_with fail
    refine (labels_is _ [] _ (by decide) rfl).mono ?_; rintro e xl ⟨⟨v, rfl, ho⟩, hb⟩
    obtain ⟨a, cap, rfl⟩ := ho.form
    replace B := bel_trans B hb
    clear hb ho
    go_wp2_with fail
    refine wp_loop_rounds 1 ?_
    rw [rounds_succ]
    go_wp2_with fail
    refine (under_is _ _ true _ (by decide) (by decide) (by decide)).mono ?_; rintro e y1 ⟨rfl, hb⟩
    replace B := bel_trans B hb
    clear hb
    go_wp2_with fail
    refine (under_is _ _ true _ (by decide) (by decide) (by decide)).mono ?_; rintro e y2 ⟨rfl, hb⟩
    replace B := bel_trans B hb
    clear hb
    go_wp2_with fail
    refine (fold_is _ ⟨#[]⟩ _ (by decide) (by decide)).mono ?_; rintro e y3 ⟨rfl, hb⟩
    replace B := bel_trans B hb
    clear hb
    go_wp2_with fail
    refine (under_is _ _ _ _ (by decide) m1.out E1.out).mono ?_; rintro e y4 ⟨rfl, hb⟩
    replace B := bel_trans B hb
    clear hb
    go_wp2_with fail
    refine (under_is _ _ _ _ m1.out m2.out E2.out).mono ?_; rintro e y5 ⟨rfl, hb⟩
    replace B := bel_trans B hb
    clear hb
    go_wp2
    go_ret
    exact ⟨rfl, B⟩
  · go_enter Try.func4, Try.ntmps4
    go_wp2_with fail
    refine (awake_yes _).mono ?_; rintro e x1 ⟨rfl, B⟩
    go_wp2_with fail
    refine (may_is _ true _ (by decide) (by decide)).mono ?_; rintro e x2 ⟨rfl, hb⟩
    replace B := bel_trans B hb
    clear hb
    go_wp2_with fail
    refine (may_is _ _ _ m1.out H1.out).mono ?_; rintro e x3 ⟨rfl, hb⟩
    replace B := bel_trans B hb
    clear hb
    go_wp2_with fail
    refine (may_is _ _ _ m2.out H2.out).mono ?_; rintro e x4 ⟨rfl, hb⟩
    replace B := bel_trans B hb
    clear hb
    go_wp2_with fail
    refine (labels_is _ [] _ (by decide) rfl).mono ?_; rintro e xl ⟨⟨v, rfl, ho⟩, hb⟩
    obtain ⟨a, cap, rfl⟩ := ho.form
    replace B := bel_trans B hb
    clear hb ho
    go_wp2_with fail
    refine wp_loop_rounds 1 ?_
    rw [rounds_succ]
    go_wp2_with fail
    refine (under_is _ _ true _ (by decide) (by decide) (by decide)).mono ?_; rintro e y1 ⟨rfl, hb⟩
    replace B := bel_trans B hb
    clear hb
    go_wp2_with fail
    refine (under_is _ _ true _ (by decide) (by decide) (by decide)).mono ?_; rintro e y2 ⟨rfl, hb⟩
    replace B := bel_trans B hb
    clear hb
    go_wp2_with fail
    refine (fold_is _ ⟨#[]⟩ _ (by decide) (by decide)).mono ?_; rintro e y3 ⟨rfl, hb⟩
    replace B := bel_trans B hb
    clear hb
    go_wp2_with fail
    refine (under_is _ _ _ _ (by decide) m1.out E1.out).mono ?_; rintro e y4 ⟨rfl, hb⟩
    replace B := bel_trans B hb
    clear hb
    go_wp2_with fail
    refine (under_is _ _ _ _ m1.out m2.out E2.out).mono ?_; rintro e y5 ⟨rfl, hb⟩
    replace B := bel_trans B hb
    clear hb
    go_wp2_with fail
    refine (under_is _ _ _ _ (by decide) m2.out E3.out).mono ?_; rintro e y6 ⟨rfl, hb⟩
    replace B := bel_trans B hb
    clear hb
    go_wp2
    go_ret
    exact ⟨rfl, B⟩

theorem walk (a0 a1 a2 : ByteArray) (w : World) (w0 : a0.size ≤ 140737488351232) (w1 : a1.size ≤ 140737488351232) (w2 : a2.size ≤ 140737488351232) :
    Calls Try.prog 4 #[.string a0, .string a1, .string a2] w fun e w' => e = .returned (.bool true) ∧ Below w.heap.size w w' := by
  have m0 : Hid (a0.size ≤ maxLen) := by unfold Hid maxLen; omega
  have m1 : Hid (a1.size ≤ maxLen) := by unfold Hid maxLen; omega
  have m2 : Hid (a2.size ≤ maxLen) := by unfold Hid maxLen; omega
  cases h0 : mayL (bs a0) with
  | false => exact walk_no a0 a1 a2 w m0 m1 m2 (.inl h0)
  | true =>
    cases h1 : mayL (bs a1) with
    | false => exact walk_no a0 a1 a2 w m0 m1 m2 (.inr (.inl h1))
    | true =>
      cases h2 : mayL (bs a2) with
      | false => exact walk_no a0 a1 a2 w m0 m1 m2 (.inr (.inr h2))
      | true =>
        by_cases hz : a0.size = 0
        · have hb0 : bs a0 = [] := List.eq_nil_of_length_eq_zero (by rw [length_bs]; exact hz)
          obtain rfl : a0 = ⟨#[]⟩ := bs_inj hb0
          exact walk_root a1 a2 w m1 m2 h1 h2
        · exact walk_yes a0 a1 a2 w m0 m1 m2 h0 h1 h2 hz

theorem own : ownKnob Try.prog.godebug = none := by kernel_rfl
theorem laidOut : laidOutB Try.prog = true := by kernel_rfl

/-! ### The row's step -/
set_option maxRecDepth 100000 in
theorem lifted (os : Os) (started : os.Started) (H : Type) (enc : TypeId × Value → H) :
    ReturnsInHanded {} Try.checked os 4 .any (Rows.nameUnderSpec.pre6 enc Try.prog Try.f4 Rows.nameUnderRow.domain false) (Rows.nameUnderSpec.post enc Try.prog Try.f4 false true false false) := by
  refine returnsInHanded_of_change_sized (C := Try.checked) own started (by kernel_rfl) Try.func4
    (ChangeSpec.witness6 (enc := enc) (C := Try.checked) false ⟨#[], #[.string ByteArray.empty, .string ByteArray.empty, .string ByteArray.empty], []⟩ 8 (by kernel_rfl) (by kernel_rfl) (by kernel_rfl) (by kernel_rfl)) ?_
  intro W base args ds gs before hval0 hW _ hsz0 _
  have hval : ∀ (j : Nat) t v, Try.f4.params[j]? = some t → args[j]? = some v → Value.okWide Try.prog W .any base t v := hval0
  have hsz : (DataW.weightsEach Try.prog (Try.f4.params.toList ++ Rows.nameUnderSpec.plain.varTypes Try.prog) (ds ++ gs)).all (· ≤ reachBytes) = true := hsz0
  have hW' := hW
  obtain ⟨p, q, hA0, hV, rfl, _, _⟩ := hW
  have hA : DataW.TrodAll enc Try.prog W 0 (fun _ => true) true Try.f4.params.toList args.toList ds p := hA0
  rw [Try.params4] at hA hval hsz
  obtain ⟨v0, vs0, d0, ds0, p0, q0, hargs, rfl, rfl, h0, r0⟩ := trodAll_cons hA
  obtain ⟨v1, vs1, d1, ds1, p1, q1, rfl, rfl, rfl, h1, r1⟩ := trodAll_cons r0
  obtain ⟨v2, vs2, d2, ds2, p2, q2, rfl, rfl, rfl, h2, r2⟩ := trodAll_cons r1
  obtain ⟨rfl, rfl, rfl⟩ := trodAll_nil r2
  obtain rfl : args = #[v0, v1, v2] := by cases args; simp_all
  obtain ⟨rfl, rfl⟩ := trodVars_none hV
  obtain ⟨a0, rfl, rfl, rfl, w0⟩ := open_string Try.underlying9 (hval 0 9 v0 rfl rfl) h0
  have s0 : a0.size ≤ 140737488351232 := by have := sized_string hsz (j := 0) (t := 9) rfl rfl; simpa [reachBytes] using this
  obtain ⟨a1, rfl, rfl, rfl, w1⟩ := open_string Try.underlying9 (hval 1 9 v1 rfl rfl) h1
  have s1 : a1.size ≤ 140737488351232 := by have := sized_string hsz (j := 1) (t := 9) rfl rfl; simpa [reachBytes] using this
  obtain ⟨a2, rfl, rfl, rfl, w2⟩ := open_string Try.underlying9 (hval 2 9 v2 rfl rfl) h2
  have s2 : a2.size ≤ 140737488351232 := by have := sized_string hsz (j := 2) (t := 9) rfl rfl; simpa [reachBytes] using this
  clear hA0 hval0 hsz0
  refine (walk a0 a1 a2 W s0 s1 s2).mono fun e W' ⟨he, bel⟩ => ?_
  subst he
  exact ⟨_, rfl, _, _, _, [], [], [], hW', trodAll_mk1 (shut_bool Try.underlying4 _), (trodAll_cons_mk (shut_string Try.underlying9 w0) (trodAll_cons_mk (shut_string Try.underlying9 w1) (trodAll_cons_mk (shut_string Try.underlying9 w2) trodAll_mk0))), rfl, bel.frame _, fun h => by cases h⟩

theorem over : Rows.nameUnderRow.holds Try.pinned (OpenSpec.ofChange Rows.nameUnderSpec) :=
  OpenClaim.holds_of_wide 4 Try.f4 rfl rfl rfl rfl rfl rfl rfl ⟨rfl, rfl, rfl, rfl, rfl⟩ rfl rfl rfl rfl rfl (by kernel_rfl) Try.func4 (by kernel_rfl)
    (of_decide_eq_true (by kernel_rfl)) (by unfold Func.isWrapper; first | (rw [if_pos (by decide +kernel)]; kernel_rfl) | (rw [if_neg (by decide +kernel)]; exact ⟨rfl, rfl⟩))
    (fun os started H enc _ => lifted os started H enc)

/-- The given statement. -/
theorem proved : Rows.NameUnderSaid := over

end Go.Proofs.Ytcacfllfgbofeaa.nameUnder
namespace Go.Proofs.Ytcacfllfgbofeaa
theorem nameUnder_proved : Rows.NameUnderSaid := nameUnder.proved
#print axioms nameUnder_proved
end Go.Proofs.Ytcacfllfgbofeaa
