/-
  Contracts of the document's own answers of layer 9: Client, Dhcid.
-/
import Derived.Test.YtkohojifnmklmaaIdent
import Derived.Test.YtkohojifnmklmaaOptRef3
import Derived.Test.YtkohojifnmklmaaPackRef
import Derived.Test.YtkohojifnmklmaaBName
namespace Go.Proofs.Ytkohojifnmklmaa
open Go.ChangeShapes Go.WideShapes Go.ChangeAt Go.RowKit Go.Pin Go.PlainAid

set_option maxHeartbeats 2000000 in
theorem rClient_c (p : Pk) (a : Option Addr) (c : Nat) (w : World) (hL : OpLies w a p.os) (hl : p.os.length ≤ 10000000000000) (hch : p.ch.size ≤ maxLen) :
    Calls Try.prog 9 #[pv p a c] w fun e w' => e = .returned (.tuple #[.string (clientA p).1, .int .i64 (clientA p).2]) ∧ Below w.heap.size w w' := by
  have HM : Hid (∀ w', Below w.heap.size w w' → _) := fun w' hb => rpMay_c p a c w' (hL.below hb) hl hch
  have HF : Hid (∀ w', Below w.heap.size w w' → _) := fun w' hb => rFind_c a c p.os 61 w' hl (hL.below hb)
  have BX : Hid (BoxP (w.alloc (.cells (cellsP p a c) 24)) w.heap.size p a c) := BoxP.new w p a c
  have B0 : Hid (Below w.heap.size w (w.alloc (.cells (cellsP p a c) 24))) := (Below.refl w.heap.size w).alloc (Nat.le_refl _) _
  have hcell : Hid (∀ w', BoxP w' w.heap.size p a c → _) := fun w' h => h.all
  have hbel : Hid (∀ w' w'', BoxP w' w.heap.size p a c → Below w'.heap.size w' w'' → BoxP w'' w.heap.size p a c) := fun w' w'' h1 h2 => h1.below h2
  have hA : clientA p = if mayP p && okI (toldI p) then (mk (toldI p), 0) else (⟨#[]⟩, 900) := rfl
  have HV : Hid (toldI p = match findO p.os 61 with | some d => d | none => if p.ch.size = 0 then [] else byteO p.ht :: bs p.ch) := rfl
  have HH : Hid (mayP p = true → 0 ≤ p.ht ∧ p.ht < 256 ∧ p.ch.size ≤ 16) := fun hm => by
    obtain ⟨h8, _, _, h16, _⟩ := (mayP_iff p).1 hm
    have := h8 p.ht (by simp); unfold inB at this; omega
  unfold findA at HF
  generalize findO p.os 61 = D at *
  generalize toldI p = V at *
  generalize clientA p = R at *
  generalize mayP p = m at *
  clear hL hl
  simp only [pv, cellsP] at *
  go_enter Try.func9, Try.ntmps9
  obtain ⟨w0, hw0⟩ : ∃ w0, w.alloc (.cells #[.int .i64 p.op, .int .i64 p.ht, .int .i64 p.ho, .int .i64 p.xid, .int .i64 p.sc, .int .i64 p.fl, .int .i64 p.ci, .int .i64 p.yi, .int .i64 p.si, .int .i64 p.gi, .string p.ch, .slice a p.os.length c] 24) = w0 := ⟨_, rfl⟩
  rw [hw0] at *
  clear hw0
  obtain ⟨c0, c1, c2, c3, c4, c5, c6, c7, c8, c9, c10, c11⟩ := hcell.out _ BX.out
  go_wp2_with fail
  refine (HM.out _ B0.out).mono ?_; rintro e w1 ⟨rfl, hb⟩
  have B1 : Hid (Below w.heap.size w w1) := bel_trans B0.out hb
  have X1 : Hid (BoxP w1 w.heap.size p a c) := hbel.out _ _ BX.out hb
  clear c0 c1 c2 c3 c4 c5 c6 c7 c8 c9 c10 c11 hb B0 BX HM
  obtain ⟨c0, c1, c2, c3, c4, c5, c6, c7, c8, c9, c10, c11⟩ := hcell.out _ X1.out
  cases m with
  | false =>
    have hR : R = (⟨#[]⟩, 900) := hA
    subst hR
    clear hA HH HF
    go_wp2
    go_ret2
    exact ⟨rfl, B1.out⟩
  | true =>
    obtain ⟨t0, t1, t16⟩ := HH.out rfl
    go_wp2_with fail
    refine (HF.out _ B1.out).mono ?_; rintro e w2 ⟨rfl, rfl⟩
    clear HF HH
    simp only [Bool.true_and] at hA
    cases D with
    | some d =>
      have hV : V = d := HV.out
      subst hV
      have hzl := size_mk V
      have hok : okI V = (decide (1 ≤ (mk V).size) && decide ((mk V).size ≤ 16)) := by rw [hzl]; rfl
      rw [hok] at hA
      clear hok HV
      simp only [Option.getD_some, Option.isSome_some]
      generalize mk V = T at *
      by_cases h1 : 1 ≤ T.size
      · by_cases h2 : T.size ≤ 16
        · rw [decide_eq_true h1, decide_eq_true h2] at hA
          have hR : R = (T, 0) := hA
          subst hR
          have g1 : ¬ ((T.size : Int) < 1) := by omega
          have g2 : ¬ ((16 : Int) < T.size) := by omega
          clear hA hzl
          go_wp2
          go_ret2
          exact ⟨rfl, B1.out⟩
        · rw [decide_eq_false h2, Bool.and_false] at hA
          have hR : R = (⟨#[]⟩, 900) := hA
          subst hR
          have g1 : ¬ ((T.size : Int) < 1) := by omega
          have g2 : ((16 : Int) < T.size) := by omega
          clear hA hzl
          go_wp2
          go_ret2
          exact ⟨rfl, B1.out⟩
      · rw [decide_eq_false h1, Bool.false_and] at hA
        have hR : R = (⟨#[]⟩, 900) := hA
        subst hR
        have g1 : ((T.size : Int) < 1) := by omega
        clear hA hzl
        go_wp2
        go_ret2
        exact ⟨rfl, B1.out⟩
    | none =>
      simp only [Option.getD_none, Option.isSome_none]
      by_cases hz : p.ch.size = 0
      · have hV : V = [] := by have := HV.out; simp only [hz, if_true] at this; exact this
        subst hV
        have hR : R = (⟨#[]⟩, 900) := hA
        subst hR
        have g1 : ((p.ch.size : Int) < 1) := by omega
        clear hA HV
        go_wp2
        go_ret2
        exact ⟨rfl, B1.out⟩
      · have hV : V = byteO p.ht :: bs p.ch := by have := HV.out; simp only [hz, if_false] at this; exact this
        have hvl : V.length = 1 + p.ch.size := by rw [hV, List.length_cons, length_bs]; omega
        have hok : okI V = decide (p.ch.size ≤ 15) := by
          unfold okI; rw [hvl, decide_eq_true (by omega), Bool.true_and]
          by_cases h : p.ch.size ≤ 15
          · rw [decide_eq_true h, decide_eq_true (by omega)]
          · rw [decide_eq_false h, decide_eq_false (by omega)]
        rw [hok] at hA
        have g1 : ¬ ((p.ch.size : Int) < 1) := by omega
        by_cases h15 : p.ch.size ≤ 15
        · rw [decide_eq_true h15] at hA
          have hR : R = (mk V, 0) := hA
          subst hR
          have HN : Hid (∀ w, _) := fun w => refOne p.ht w t0 t1
          have HC : Hid (mk [byteO p.ht] ++ p.ch = mk V) := by show _ = _; rw [hV]; apply bs_inj; simp [bs, mk]
          have hsz : (mk [byteO p.ht]).size = 1 := size_mk _
          have g2 : ¬ ((16 : Int) ≤ p.ch.size) := by omega
          generalize mk [byteO p.ht] = H at *
          have hss : ¬ 9223372036854775807 < H.size + p.ch.size := by omega
          clear hA HV hok hvl hV hsz
          have lt := X1.out.lt
          go_wp2_with fail
          go_region_held3 (fun w' => w'.cell? ⟨w.heap.size, 1, none⟩ = some (.int .i64 p.ht) ∧ w'.cell? ⟨w.heap.size, 10, none⟩ = some (.string p.ch)) (first | exact ⟨c1, c10⟩ | exact ⟨k1, k10⟩)
            (first | (go_at_call 20; refine (HN.out _).mono ?_; rintro e w5 ⟨rfl, hb5⟩; have hb' := bel_trans (below_drewN (Below.refl _ _) 1) hb5; have k1 := (hb'.cell (p := ⟨w.heap.size, 1, none⟩) lt).trans c1; have k10 := (hb'.cell (p := ⟨w.heap.size, 10, none⟩) lt).trans c10))
          have B5 : Hid (Below w.heap.size w w5) := bel_trans B1.out hb'
          rw [HC.out]
          go_wp2
          go_ret2
          exact ⟨rfl, B5.out⟩
        · rw [decide_eq_false h15] at hA
          have hR : R = (⟨#[]⟩, 900) := hA
          subst hR
          have g2 : ((16 : Int) ≤ p.ch.size) := by omega
          clear hA HV hok hvl hV
          go_wp2
          go_ret2
          exact ⟨rfl, B1.out⟩

/-! ### Dhcid -/
set_option maxHeartbeats 2000000 in
theorem rDhcid_c (s n : ByteArray) (w : World) (hn : n.size ≤ 1048576) :
    Calls Try.prog 11 #[.string s, .string n] w fun e w' => e = .returned (.tuple #[.string (dhcA (bs s) (bs n)).1, .int .i64 (dhcA (bs s) (bs n)).2]) ∧ Below w.heap.size w w' := by
  have HM : Hid (∀ w, _) := fun w => nameMay_c n w hn
  have hA : dhcA (bs s) (bs n) = if okI (bs s) && mayL (bs n) then (mk (dhcL (bs s) (bs n)), 0) else (⟨#[]⟩, 900) := rfl
  have hok : okI (bs s) = (decide (1 ≤ s.size) && decide (s.size ≤ 16)) := by unfold okI; rw [length_bs]
  by_cases h1 : 1 ≤ s.size
  · have g1 : ¬ ((s.size : Int) < 1) := by omega
    by_cases h2 : s.size ≤ 16
    · have g2 : ¬ ((16 : Int) < s.size) := by omega
      rw [decide_eq_true h1, decide_eq_true h2, Bool.and_true] at hok
      rw [hok, Bool.true_and] at hA
      cases hm : mayL (bs n) with
      | false =>
        rw [hm] at hA HM
        rw [hA]
        simp only [Bool.false_eq_true, if_false]
        clear hA hok hm
        go_enter Try.func11, Try.ntmps11
        go_wp2_with fail
        refine (HM.out _).mono ?_; rintro e w1 ⟨rfl, hb⟩
        go_wp2
        go_ret2
        exact ⟨rfl, hb⟩
      | true =>
        have l2 := mayL_len hm
        rw [length_bs] at l2
        rw [hm] at hA HM
        rw [hA]
        simp only [if_true]
        have hov := over_mk s n
        have hz : (mk (overI (bs s) (bs n))).size ≤ 100 := by rw [size_mk]; simp only [overI, List.length_append, List.length_cons, length_bs]; omega
        obtain ⟨O, hO⟩ : ∃ O, mk (overI (bs s) (bs n)) = O := ⟨_, rfl⟩
        have hbO : bs O = overI (bs s) (bs n) := by rw [← hO, bs_mk]
        rw [hO] at hov hz
        have HX : Hid (∀ j, fnv 2166136261 ((bs O).take j) < 4294967296) := fun j => fnv_lt (by decide) _
        have HS : Hid (∀ j, j < O.size → fnv 2166136261 ((bs O).take (j + 1)) = fnvS (fnv 2166136261 ((bs O).take j)) (UInt8.ofNat (bt O j).toNat)) := fun j hj => fnv_take O _ j hj
        have H0 : Hid (fnv 2166136261 ((bs O).take 0) = 2166136261) := rfl
        have HE : Hid (fnv 2166136261 ((bs O).take O.size) = sumI (bs s) (bs n)) := by
          show _ = _
          rw [List.take_of_length_le (by rw [length_bs]; exact Nat.le_refl _), hbO]; rfl
        have HU : Hid (∀ w, _) := fun w => refNum (sumI (bs s) (bs n) : Nat) 4 w (by omega) (by have := sumI_lt (bs s) (bs n); omega) (by omega)
        have HP : Hid (⟨#[0, 1, 1]⟩ ++ be (sumI (bs s) (bs n) : Nat) 4 = mk (dhcL (bs s) (bs n))) := by show _ = _; apply bs_inj; simp [bs, mk, dhcL]
        have hbs4 : (be (sumI (bs s) (bs n) : Nat) 4).size = 4 := size_be _ _
        have hlt := sumI_lt (bs s) (bs n)
        generalize hG : (fun j => fnv 2166136261 ((bs O).take j)) = G at *
        have hg : ∀ j, fnv 2166136261 ((bs O).take j) = G j := fun j => by rw [← hG]
        simp only [hg] at HX HS H0 HE
        have hp1 : (s ++ ⟨#[0]⟩ : ByteArray).size ≤ 17 := by rw [ByteArray.size_append]; have : (⟨#[0]⟩ : ByteArray).size = 1 := rfl; omega
        have hgb := get_bt O
        generalize mk (dhcL (bs s) (bs n)) = T at *
        generalize be (sumI (bs s) (bs n) : Nat) 4 = T4 at *
        generalize sumI (bs s) (bs n) = U at *
        clear hA hok hm hG hg hbO hO
        go_enter Try.func11, Try.ntmps11
        go_wp2_with fail
        refine (HM.out _).mono ?_; rintro e w1 ⟨rfl, hb⟩
        have B1 : Hid (Below w.heap.size w w1) := hb
        clear hb HM
        go_wp2_with fail
        go_loop [6, 8] (fun x i => ∃ j : Nat, j ≤ O.size ∧ i = .int .i64 j ∧ x = .int .u32 (G j : Nat)) (fun _ i => O.size - (intOf i).toNat)
        case atStart => exact ⟨0, Nat.zero_le _, rfl, by rw [H0.out]; rfl⟩
        case round =>
          obtain ⟨j, hj, rfl, rfl⟩ := hrel
          by_cases hltj : j < O.size
          · have hb0 := bt_nonneg O j
            have hb2 := bt_le O j
            have hst : Hid (_) := step_sum (HX.out j) hb0 hb2
            rw [← HS.out j hltj] at hst
            clear HS HX HU HP
            generalize hx : bt O j = x at *
            go_wp2
            exact ⟨⟨j + 1, by omega, by go_num, by rw [hst.out]⟩, by simp [intOf]; omega⟩
          · obtain rfl : j = O.size := by omega
            rw [HE.out]
            have hw : wrap64 (U : Int) = U := by unfold wrap64; omega
            have h34 : (⟨#[0, 1, 1]⟩ : ByteArray).size + T4.size ≤ 7 := by rw [hbs4]; decide
            go_wp2_with fail
            refine (HU.out _).mono ?_; rintro e w5 ⟨rfl, hb⟩
            have B5 : Hid (Below w.heap.size w w5) := bel_trans B1.out hb
            go_wp2
            rw [HP.out]
            go_ret2
            exact ⟨rfl, B5.out⟩
    · have g2 : ((16 : Int) < s.size) := by omega
      rw [decide_eq_false h2, Bool.and_false] at hok
      rw [hok, Bool.false_and] at hA
      rw [hA]
      simp only [Bool.false_eq_true, if_false]
      clear hA hok HM
      go_enter Try.func11, Try.ntmps11
      go_wp2
      go_ret2
      exact ⟨rfl, Below.refl _ _⟩
  · have g1 : ((s.size : Int) < 1) := by omega
    rw [decide_eq_false h1, Bool.false_and] at hok
    rw [hok, Bool.false_and] at hA
    rw [hA]
    simp only [Bool.false_eq_true, if_false]
    clear hA hok HM
    go_enter Try.func11, Try.ntmps11
    go_wp2
    go_ret2
    exact ⟨rfl, Below.refl _ _⟩

end Go.Proofs.Ytkohojifnmklmaa
