/-
  Contracts of the references PutFqdn and GetFqdn: they answer what package fqdn's functions do.
-/
import Derived.Test.YteaediobcjednaaFqdnGet
import Derived.Test.YteaediobcjednaaWireRefPut
namespace Go.Proofs.Yteaediobcjednaa
open Go.ChangeShapes Go.WideShapes Go.ChangeAt Go.RowKit Go.Pin Go.PlainAid

/-- The flag 4. -/
theorem bit_4 {f : Int} (h0 : 0 ≤ f) (h1 : f ≤ 15) : (bits .and .i64 f 4 == 0) = !mayF f := by
  have h : f = 0 ∨ f = 1 ∨ f = 2 ∨ f = 3 ∨ f = 4 ∨ f = 5 ∨ f = 6 ∨ f = 7 ∨ f = 8 ∨ f = 9 ∨ f = 10 ∨ f = 11 ∨ f = 12 ∨ f = 13 ∨ f = 14 ∨ f = 15 := by omega
  rcases h with rfl | rfl | rfl | rfl | rfl | rfl | rfl | rfl | rfl | rfl | rfl | rfl | rfl | rfl | rfl | rfl <;> decide +kernel
theorem bit_4u {f : Int} (h0 : 0 ≤ f) (h1 : f ≤ 15) : (bits .and .u8 f 4 == 0) = !mayF f := by
  have h : f = 0 ∨ f = 1 ∨ f = 2 ∨ f = 3 ∨ f = 4 ∨ f = 5 ∨ f = 6 ∨ f = 7 ∨ f = 8 ∨ f = 9 ∨ f = 10 ∨ f = 11 ∨ f = 12 ∨ f = 13 ∨ f = 14 ∨ f = 15 := by omega
  rcases h with rfl | rfl | rfl | rfl | rfl | rfl | rfl | rfl | rfl | rfl | rfl | rfl | rfl | rfl | rfl | rfl <;> decide +kernel
theorem mayF_no {f : Int} (h : f < 0 ∨ 15 < f) : mayF f = false := by
  cases hm : mayF f with
  | false => rfl
  | true => have := mayF_bd hm; omega

set_option maxHeartbeats 1000000 in
theorem rfPut_c (f : Int) (n : ByteArray) (w : World) (hn : n.size ≤ 1048576) :
    Calls Try.prog 8 #[.int .i64 f, .string n] w fun e w' => e = .returned (.tuple #[.string (fqA (putF f (bs n))).1, .int .i64 (fqA (putF f (bs n))).2]) ∧ Below w.heap.size w w' := by
  have HN : Hid (∀ w, _) := fun w => nameMay_c n w hn
  by_cases h0 : f < 0
  · have d0 : decide (f < 0) = true := by simpa using h0
    have hp : putF f (bs n) = none := by unfold putF; rw [mayF_no (.inl h0)]; simp
    rw [hp]
    go_enter Try.func8, Try.ntmps8
    go_wp2
    go_ret2
    exact ⟨rfl, Below.refl _ _⟩
  · have d0 : decide (f < 0) = false := by simpa using h0
    by_cases h1 : 15 < f
    · have d1 : decide (15 < f) = true := by simpa using h1
      have hp : putF f (bs n) = none := by unfold putF; rw [mayF_no (.inr h1)]; simp
      rw [hp]
      go_enter Try.func8, Try.ntmps8
      go_wp2
      go_ret2
      exact ⟨rfl, Below.refl _ _⟩
    · have d1 : decide (15 < f) = false := by simpa using h1
      have hb := bit_4 (f := f) (by omega) (by omega)
      obtain ⟨Q, hQ⟩ : ∃ Q, bits .and .i64 f 4 = Q := ⟨_, rfl⟩
      rw [hQ] at hb
      cases hm : mayF f with
      | false =>
        have hp : putF f (bs n) = none := by unfold putF; rw [hm]; simp
        rw [hp]
        rw [hm, Bool.not_false] at hb
        clear hm hp
        go_enter Try.func8, Try.ntmps8
        go_wp2
        go_ret2
        exact ⟨rfl, Below.refl _ _⟩
      | true =>
        rw [hm, Bool.not_true] at hb
        cases hl : mayL (bs n) with
        | false =>
          have hp : putF f (bs n) = none := by unfold putF; rw [hl]; simp
          rw [hp]
          rw [hl] at HN
          clear hm hp hl
          go_enter Try.func8, Try.ntmps8
          go_wp2_with fail
          refine (HN.out _).mono ?_; rintro e w1 ⟨rfl, B⟩
          go_wp2
          go_ret2
          exact ⟨rfl, B⟩
        | true =>
          have hp : putF f (bs n) = some (UInt8.ofNat f.toNat :: 255 :: 255 :: putS [] (labsL (bs n))) := by unfold putF; rw [if_pos ⟨hm, hl⟩]
          rw [hp]
          have hmp : mayPutL 0 [] (bs n) = true := by simp [mayPutL, hl]
          have HP : Hid (∀ w, _) := fun w => rput_nil 0 0 [] rfl n w hn hmp
          have H1 : Hid (∀ w, _) := fun w => refNum f 1 w (by omega) (by omega) (by omega)
          have hlen := putS_len [] (labsL (bs n)) (fun x hx => labsL_ok hx)
          have hl8 := labsL_len (bs n)
          have hT : mk (UInt8.ofNat f.toNat :: 255 :: 255 :: putS [] (labsL (bs n))) = be f 1 ++ ⟨#[255, 255]⟩ ++ mk (putS [] (labsL (bs n))) := by
            apply bs_inj
            rw [be_1 f (by omega) (by omega)]
            simp [bs, mk, str]
          simp only [fqA]
          rw [hT]
          have z1 : (mk (putS [] (labsL (bs n)))).size ≤ 1000 := by rw [size_mk]; omega
          have z2 : (be f 1).size = 1 := size_be _ _
          rw [hl] at HN
          generalize mk (putS [] (labsL (bs n))) = S at *
          generalize be f 1 = F at *
          generalize [] ++ putN [] 0 (labsL (bs n)) = KS at *
          clear hm hp hl hmp hlen hl8 hT
          have z3 : (F ++ (⟨#[255, 255]⟩ : ByteArray)).size = 3 := by rw [ByteArray.size_append, z2]; rfl
          go_enter Try.func8, Try.ntmps8
          go_wp2_with fail
          refine (HN.out _).mono ?_; rintro e w1 ⟨rfl, B⟩
          go_wp2_with fail
          refine (HP.out _).mono ?_; rintro e w2 ⟨⟨v, rfl, _⟩, hb2⟩
          replace B := bel_trans B hb2
          clear hb2
          go_wp2_with fail
          refine (H1.out _).mono ?_; rintro e w3 ⟨rfl, hb3⟩
          replace B := bel_trans B hb3
          clear hb3
          go_wp2
          go_ret2
          exact ⟨rfl, B⟩

/-- More labels than eight are no name. -/
theorem may_many {ls : List (List UInt8)} (hl : 8 < ls.length) (ho : ∀ x ∈ ls, okL x = true) : mayL (join ls) = false := by
  have hne : ls ≠ [] := by intro e; subst e; simp at hl
  have hs := split_join ls hne (fun x hx => okL_nodot (ho x hx))
  have hj := join_ne hne ho
  unfold mayL
  rw [hs]
  simp [hj]
  omega
theorem may_fin {ls : List (List UInt8)} (ho : ∀ x ∈ ls, okL x = true) : finF (some ls) = if mayL (join ls) then some (join ls) else none := by
  simp only [finF]
  by_cases h : ls.length ≤ 8
  · rw [if_pos h, (may_join h ho).1]; simp
  · rw [if_neg h, may_many (by omega) ho]; simp
theorem scan_none {f a : Nat} {t : List UInt8} {labs : List (List UInt8)} (h : t[a]? = none) : scanF (f + 1) t a labs = some labs := by unfold scanF; rw [h]
theorem scan_zero {f a : Nat} {t : List UInt8} {labs : List (List UInt8)} {c : UInt8} (h : t[a]? = some c) (h0 : c.toNat = 0) : scanF (f + 1) t a labs = if a + 1 = t.length then some labs else none := by
  conv => lhs; unfold scanF
  rw [h]; simp only; rw [if_pos h0]
theorem scan_on {f a : Nat} {t : List UInt8} {labs : List (List UInt8)} {c : UInt8} (h : t[a]? = some c) (h0 : c.toNat ≠ 0) (h8 : c.toNat ≤ 8) (hl : a + 1 + c.toNat ≤ t.length) (hk : okL (foldL ((t.drop (a + 1)).take c.toNat)) = true) :
    scanF (f + 1) t a labs = scanF f t (a + 1 + c.toNat) (labs ++ [foldL ((t.drop (a + 1)).take c.toNat)]) := by
  conv => lhs; unfold scanF
  rw [h]; simp only; rw [if_neg h0, if_pos ⟨h8, hl, hk⟩]
theorem scan_no {f a : Nat} {t : List UInt8} {labs : List (List UInt8)} {c : UInt8} (h : t[a]? = some c) (h0 : c.toNat ≠ 0) (hh : ¬ c.toNat ≤ 8 ∨ ¬ a + 1 + c.toNat ≤ t.length ∨ okL (foldL ((t.drop (a + 1)).take c.toNat)) = false) :
    scanF (f + 1) t a labs = none := by
  unfold scanF
  rw [h]; simp only; rw [if_neg h0, if_neg]
  rintro ⟨h1, h2, h3⟩
  rcases hh with hh | hh | hh
  · exact hh h1
  · exact hh h2
  · rw [h3] at hh; cases hh

set_option maxHeartbeats 4000000 in
theorem rfGet_c (s : ByteArray) (w : World) (hs : s.size ≤ 1048576) : Calls Try.prog 10 #[.string s] w fun e w' => e = fqG (getF (bs s)) ∧ Below w.heap.size w w' := by
  by_cases h3 : s.size < 3
  · rw [getF_short (by rw [length_bs]; exact h3)]
    have d3 : decide ((s.size : Int) < 3) = true := by simp; omega
    go_enter Try.func10, Try.ntmps10
    go_wp2
    go_ret3
    exact ⟨rfl, Below.refl _ _⟩
  · have d3 : decide ((s.size : Int) < 3) = false := by simp; omega
    obtain ⟨c, a, b, t, hq⟩ : ∃ c a b t, bs s = c :: a :: b :: t := by
      have hl := length_bs s
      rcases hq : bs s with _ | ⟨c, _ | ⟨a, _ | ⟨b, t⟩⟩⟩
      · rw [hq] at hl; simp at hl; omega
      · rw [hq] at hl; simp at hl; omega
      · rw [hq] at hl; simp at hl; omega
      · exact ⟨c, a, b, t, rfl⟩
    have hb0 : bt s 0 = (c.toNat : Int) := by rw [bt_list, show s.data.toList = c :: a :: b :: t from hq]; rfl
    have hpos : 0 < s.size := by omega
    have hpos' : (0 : Int) < (s.size : Int) := by omega
    have hget := get_bt s 0 hpos
    rw [hb0] at hget
    have hc255 : c.toNat < 256 := c.toNat_lt
    rw [hq, getF_cons]
    by_cases h15 : 15 < c.toNat
    · have d15 : decide ((15 : Int) < (c.toNat : Int)) = true := by simp; omega
      rw [mayF_no (.inr (by omega)), if_neg (by simp)]
      clear hq hb0
      generalize c.toNat = cn at *
      go_enter Try.func10, Try.ntmps10
      go_wp2
      go_ret3
      exact ⟨rfl, Below.refl _ _⟩
    · have d15 : decide ((15 : Int) < (c.toNat : Int)) = false := by simp; omega
      have hb := bit_4u (f := (c.toNat : Int)) (by omega) (by omega)
      obtain ⟨Q, hQ⟩ : ∃ Q, bits .and .u8 (c.toNat : Int) 4 = Q := ⟨_, rfl⟩
      rw [hQ] at hb
      cases hm : mayF (c.toNat : Int) with
      | false =>
        rw [if_neg (by simp)]
        rw [hm, Bool.not_false] at hb
        clear hq hb0 hm
        generalize c.toNat = cn at *
        go_enter Try.func10, Try.ntmps10
        go_wp2
        go_ret3
        exact ⟨rfl, Below.refl _ _⟩
      | true =>
        rw [if_pos rfl, rest_scan t]
        rw [hm, Bool.not_true] at hb
        obtain ⟨T, hT⟩ : ∃ T, s.extract 3 s.size = T := ⟨_, rfl⟩
        have ht : bs T = t := by
          rw [← hT, bs_behind s 3, hq]; rfl
        have hTs : T.size + 3 = s.size := by rw [← length_bs T, ht, ← length_bs s, hq]; rfl
        rw [← ht]
        obtain ⟨R, hR⟩ : ∃ R, R = finF (scanF ((bs T).length + 1) (bs T) 0 []) := ⟨_, rfl⟩
        rw [← hR]
        have HR : Hid (_) := hR
        clear hR ht hq hb0 hm
        generalize c.toNat = c0 at *
        have hlb := length_bs T
        have hTi : (3 : Int) ≤ (s.size : Int) := by omega
        go_enter Try.func10, Try.ntmps10
        go_wp2_with fail
        go_loopg [6, 7] (T.size + 1) (fun k n p wr => ∃ (a : Nat) (labs : List (List UInt8)), n = .string (mk (join labs)) ∧ p = .int .i64 a ∧ Below w.heap.size w wr ∧ a ≤ T.size ∧ (join labs).length ≤ a ∧ (∀ l ∈ labs, okL l = true) ∧ R = finF (scanF k (bs T) a labs) ∧ T.size - a < k)
        case atStart => exact ⟨0, [], rfl, rfl, Below.refl _ _, Nat.zero_le _, by simp [join], by simp, by rw [← hlb]; exact HR.out, by omega⟩
        case round =>
          obtain ⟨a, labs, rfl, rfl, B, hle, hjl, hok, hR, hk⟩ := hrel
          obtain ⟨f, hf⟩ : ∃ f, gk = f + 1 := ⟨gk - 1, by omega⟩
          have HK : Hid (gk = f + 1 ∧ R = finF (scanF (f + 1) (bs T) a labs) ∧ T.size - a < f + 1) := ⟨hf, by rw [hR, hf], by omega⟩
          have HO : Hid (∀ l ∈ labs, okL l = true) := hok
          have HN : Hid (∀ w, _) := fun w => nameMay_c (mk (join labs)) w (by rw [size_mk]; omega)
          rw [bs_mk] at HN
          have HF : Hid (R = finF (some labs) → R = if mayL (join labs) then some (join labs) else none) := fun h => by rw [h]; exact may_fin hok
          have hns := size_mk (join labs)
          clear hR hk hok HR hf
          by_cases hl : a < T.size
          · obtain ⟨c, hc, hbt⟩ := bt_bs T a hl
            have hget2 := get_bt T a hl
            have hc2 : c.toNat < 256 := c.toNat_lt
            have hi1 : (a : Int) < (T.size : Int) := by omega
            by_cases hz : c.toNat = 0
            · rw [hbt, hz] at hget2
              by_cases he : a + 1 = T.size
              · have H1 := HF.out (by rw [HK.out.2.1, scan_zero hc hz, if_pos (by omega)])
                have dl : decide ((a : Int) < (T.size : Int) - 1) = false := by simp; omega
                clear hc hbt HF HK
                generalize join labs = nm at *
                cases hm : mayL nm with
                | false =>
                  rw [hm] at HN H1
                  simp only [Bool.false_eq_true, if_false] at H1
                  subst H1
                  clear hm
                  go_wp2_with fail
                  refine (HN.out _).mono ?_; rintro e w1 ⟨rfl, hb1⟩
                  replace B := bel_trans B hb1
                  clear hb1
                  go_wp2
                  go_ret3
                  exact ⟨rfl, B⟩
                | true =>
                  rw [hm] at HN H1
                  simp only [if_true] at H1
                  subst H1
                  clear hm
                  go_wp2_with fail
                  refine (HN.out _).mono ?_; rintro e w1 ⟨rfl, hb1⟩
                  replace B := bel_trans B hb1
                  clear hb1
                  go_wp2
                  go_ret3
                  exact ⟨rfl, B⟩
              · have H1 : Hid (R = none) := by rw [HK.out.2.1, scan_zero hc hz, if_neg (by omega)]; rfl
                have dl : decide ((a : Int) < (T.size : Int) - 1) = true := by simp; omega
                clear hc hbt HF HK
                go_wp2
                go_ret3
                rw [H1.out]
                exact ⟨rfl, B⟩
            · have g0 : ((c.toNat : Int) == 0) = false := by simp; omega
              rw [hbt] at hget2
              by_cases h9 : c.toNat ≤ 8
              · have hle8 : (c.toNat : Int) ≤ 8 := by omega
                have d8 : decide ((8 : Int) < (c.toNat : Int)) = false := by simp; omega
                by_cases hshort : T.size < a + 1 + c.toNat
                · have H1 : Hid (R = none) := by rw [HK.out.2.1, scan_no hc hz (.inr (.inl (by omega)))]; rfl
                  have dl : decide ((T.size : Int) - a - 1 < (c.toNat : Int)) = true := by simp; omega
                  generalize c.toNat = cn at *
                  clear hc hbt
                  go_wp2
                  go_ret3
                  rw [H1.out]
                  exact ⟨rfl, B⟩
                · have hfit : a + 1 + c.toNat ≤ T.size := by omega
                  have dl : decide ((T.size : Int) - a - 1 < (c.toNat : Int)) = false := by simp; omega
                  have hx := extract_is T (a + 1) c.toNat
                  have hnp := piece_len T (a + 1) c.toNat
                  have Hon := fun (h1 : okL (foldL (((bs T).drop (a + 1)).take c.toNat)) = true) => scan_on (f := f) (labs := labs) hc hz h9 (by omega) h1
                  have Hno := fun h => scan_no (f := f) (labs := labs) hc hz (.inr (.inr h))
                  generalize hraw : ((bs T).drop (a + 1)).take c.toNat = raw at *
                  have HF2 : Hid (∀ w, Calls Try.prog 26 #[.string (T.extract (a + 1) (a + 1 + c.toNat))] w fun e w' => e = .returned (.string (mk (foldL raw))) ∧ Below w.heap.size w w') := by
                    intro w; rw [hx]; exact rfold_c (mk raw) w (by rw [size_mk]; unfold maxLen; omega)
                  have hfl : (foldL raw).length = raw.length := by simp [foldL]
                  have HL : Hid (∀ w, Calls Try.prog 27 #[.string (mk (foldL raw))] w fun e w' => e = .returned (.bool (okL (foldL raw))) ∧ w' = w) := by
                    intro w; exact labelMay_c (mk (foldL raw)) w (by rw [size_mk, hfl]; unfold maxLen; omega)
                  have hfs := size_mk (foldL raw)
                  generalize foldL raw = t2 at *
                  have Hjoin : Hid (join (labs ++ [t2]) = if labs = [] then t2 else join labs ++ 46 :: t2) := by
                    unfold Hid
                    by_cases hnil : labs = []
                    · rw [if_pos hnil, hnil]; rfl
                    · rw [if_neg hnil, join_snoc _ _ hnil]
                  have Hjl : Hid ((join (labs ++ [t2])).length ≤ a + 1 + c.toNat) := by
                    unfold Hid
                    rw [Hjoin.out]
                    split
                    · omega
                    · simp; omega
                  have Hnil : Hid (labs = [] → join labs = []) := by intro h; rw [h]; rfl
                  have Hne : Hid (labs ≠ [] → join labs ≠ []) := fun h => join_ne h HO.out
                  have H46 : Hid ((⟨#[46]⟩ : ByteArray) = mk [46]) := rfl
                  cases hg : okL t2 with
                  | false =>
                    have H1 : Hid (R = none) := by rw [HK.out.2.1, Hno hg]; rfl
                    rw [hg] at HL
                    generalize c.toNat = cn at *
                    clear hc hbt hx hraw Hon Hno hg
                    by_cases hnil : labs = []
                    · have he := empty_mk_yes (Hnil.out hnil)
                      clear hnil Hnil Hne Hjoin Hjl
                      go_wp2_with fail
                      refine (HF2.out _).mono ?_; rintro e w1 ⟨rfl, hb1⟩
                      go_wp2_with fail
                      refine (HL.out _).mono ?_; rintro e w2 ⟨rfl, rfl⟩
                      replace B := bel_trans B hb1
                      clear hb1
                      go_wp2
                      go_ret3
                      rw [H1.out]
                      exact ⟨rfl, B⟩
                    · have he := empty_mk_no (Hne.out hnil)
                      clear hnil Hnil Hne Hjoin Hjl
                      go_wp2_with fail
                      refine (HF2.out _).mono ?_; rintro e w1 ⟨rfl, hb1⟩
                      go_wp2_with fail
                      refine (HL.out _).mono ?_; rintro e w2 ⟨rfl, rfl⟩
                      replace B := bel_trans B hb1
                      clear hb1
                      go_wp2
                      go_ret3
                      rw [H1.out]
                      exact ⟨rfl, B⟩
                  | true =>
                    rw [hg] at HL
                    have H1 : Hid (R = finF (scanF f (bs T) (a + 1 + c.toNat) (labs ++ [t2]))) := by rw [HK.out.2.1, Hon hg]; rfl
                    have Hok2 : Hid (∀ l ∈ labs ++ [t2], okL l = true) := by
                      intro l hl
                      rcases List.mem_append.1 hl with hl | hl
                      · exact HO.out l hl
                      · simp at hl; subst hl; exact hg
                    generalize c.toNat = cn at *
                    clear hc hbt hx hraw Hon Hno hg
                    by_cases hnil : labs = []
                    · have he := empty_mk_yes (Hnil.out hnil)
                      have Hj2 : Hid (join (labs ++ [t2]) = t2) := by unfold Hid; rw [Hjoin.out, if_pos hnil]
                      have Hj0 : Hid (join labs = []) := Hnil.out hnil
                      clear hnil Hnil Hne Hjoin
                      go_wp2_with fail
                      refine (HF2.out _).mono ?_; rintro e w1 ⟨rfl, hb1⟩
                      go_wp2_with fail
                      refine (HL.out _).mono ?_; rintro e w2 ⟨rfl, rfl⟩
                      replace B := bel_trans B hb1
                      clear hb1
                      go_wp2
                      go_roundg f
                      case measure => have := HK.out.1; omega
                      case rel =>
                        refine ⟨a + 1 + cn, labs ++ [t2], ?_, by go_num, B, hfit, Hjl.out, Hok2.out, H1.out, by have := HK.out.2.2; omega⟩
                        rw [Hj2.out, Hj0.out, mk_append]; rfl
                    · have he := empty_mk_no (Hne.out hnil)
                      have Hj2 : Hid (join (labs ++ [t2]) = join labs ++ 46 :: t2) := by unfold Hid; rw [Hjoin.out, if_neg hnil]
                      clear hnil Hnil Hne Hjoin
                      go_wp2_with fail
                      refine (HF2.out _).mono ?_; rintro e w1 ⟨rfl, hb1⟩
                      go_wp2_with fail
                      refine (HL.out _).mono ?_; rintro e w2 ⟨rfl, rfl⟩
                      replace B := bel_trans B hb1
                      clear hb1
                      go_wp2
                      go_roundg f
                      case measure => have := HK.out.1; omega
                      case rel =>
                        refine ⟨a + 1 + cn, labs ++ [t2], ?_, by go_num, B, hfit, Hjl.out, Hok2.out, H1.out, by have := HK.out.2.2; omega⟩
                        rw [Hj2.out, H46.out, mk_append, mk_append]; simp
              · have H1 : Hid (R = none) := by rw [HK.out.2.1, scan_no hc hz (.inl h9)]; rfl
                have d8 : decide ((8 : Int) < (c.toNat : Int)) = true := by simp; omega
                generalize c.toNat = cn at *
                clear hc hbt
                go_wp2
                go_ret3
                rw [H1.out]
                exact ⟨rfl, B⟩
          · have hat : a = T.size := by omega
            have H1 := HF.out (by rw [HK.out.2.1, scan_none (List.getElem?_eq_none (by omega))])
            have di : decide ((a : Int) < (T.size : Int)) = false := by simp; omega
            have dl : decide ((a : Int) < (T.size : Int) - 1) = false := by simp; omega
            clear HF HK
            generalize join labs = nm at *
            cases hm : mayL nm with
            | false =>
              rw [hm] at HN H1
              simp only [Bool.false_eq_true, if_false] at H1
              subst H1
              clear hm
              go_wp2_with fail
              refine (HN.out _).mono ?_; rintro e w1 ⟨rfl, hb1⟩
              replace B := bel_trans B hb1
              clear hb1
              go_wp2
              go_ret3
              exact ⟨rfl, B⟩
            | true =>
              rw [hm] at HN H1
              simp only [if_true] at H1
              subst H1
              clear hm
              go_wp2_with fail
              refine (HN.out _).mono ?_; rintro e w1 ⟨rfl, hb1⟩
              replace B := bel_trans B hb1
              clear hb1
              go_wp2
              go_ret3
              exact ⟨rfl, B⟩
end Go.Proofs.Yteaediobcjednaa
