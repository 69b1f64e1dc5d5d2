/-
  Contracts of the references' Usable, Owner and Reserved, at every configuration whose texts have at most 1048576 letters.
-/
import Derived.Test.YtedbihckdbpebaaConfRef2
import Derived.Deep.QuietTactic
import Derived.BigQuiet
import Derived.Deep.RegionHeld3
import Derived.Deep.DeepCutAuto
import Derived.Deep.CutRange
namespace Go.Proofs.Ytedbihckdbpebaa
open Go.ChangeShapes Go.WideShapes Go.ChangeAt Go.RowKit Go.Pin Go.PlainAid

/-! ### Usable, Owner, Reserved -/
theorem res_found {c : Cf} {q : Rsv → Bool} (hm : mayC c = true) {j : Nat} {r : Rsv} (hj : c.rs[j]? = some r) (h1 : ∀ k s, k < j → c.rs[k]? = some s → q s = false) (h2 : q r = true) : resC c q = (r, true) := by
  obtain ⟨hl, e⟩ := List.getElem?_eq_some_iff.1 hj
  have : c.rs.find? q = some r := List.find?_eq_some_iff_getElem.2 ⟨h2, j, hl, e, fun k hk => by rw [h1 k _ hk (List.getElem?_eq_getElem (by omega))]; rfl⟩
  unfold resC
  rw [if_pos hm, this]
theorem res_none {c : Cf} {q : Rsv → Bool} (h : ∀ k s, k < c.rs.length → c.rs[k]? = some s → q s = false) : resC c q = (zeroV, false) := by
  have : c.rs.find? q = none := List.find?_eq_none.2 fun x hx => by
    obtain ⟨k, hk, rfl⟩ := List.mem_iff_getElem.1 hx
    rw [h k _ hk (List.getElem?_eq_getElem hk)]; simp
  unfold resC
  rw [this]; split <;> rfl
theorem res_no {c : Cf} {q : Rsv → Bool} (hm : mayC c = false) : resC c q = (zeroV, false) := by unfold resC; rw [hm]; rfl
set_option maxRecDepth 100000 in
set_option maxHeartbeats 1000000 in
theorem rOwner_c (c : Cf) (p : CPl) (h : Int) (w : World) (hL : CfLies w c p) (hl : c.rs.length ≤ 10000000000000) (hz : c.zo.size ≤ 1048576) (hs : ∀ r ∈ c.st, r.n.size ≤ 1048576 ∧ r.tg.size ≤ 1048576) :
    Calls Try.prog 10 #[cv c p, .int .i64 h] w fun e w' => e = .returned (.tuple #[.string (ownerC c h).1, .bool (ownerC c h).2]) ∧ Below w.heap.size w w' := by
  have HM : Hid (∀ w', Below w.heap.size w w' → _) := fun w' hb => rMay_c c p w' (hL.below hb) hz hs
  have HR : Hid (∀ k r, c.rs[k]? = some r → ∀ w', Below w.heap.size w w' → ∃ x, p.ra = some x ∧ RsvFrom w' (x.add (k * 2)) r) := fun k n hk w' hb => by
    rcases hL.r.below hb with h | ⟨x, h1, h2⟩
    · rw [h] at hk; simp at hk
    · exact ⟨x, h1, h2 k n hk⟩
  have O1 : Hid (mayC c = false → (⟨#[]⟩, false) = ownerC c h) := fun hm => by rw [ownerC, res_no hm]; rfl
  have O2 : Hid ((∀ k s, k < c.rs.length → c.rs[k]? = some s → byHost h s = false) → (⟨#[]⟩, false) = ownerC c h) := fun hh => by rw [ownerC, res_none hh]; rfl
  have O3 : Hid (mayC c = true → ∀ j r, c.rs[j]? = some r → (∀ k s, k < j → c.rs[k]? = some s → byHost h s = false) → byHost h r = true → (r.c, true) = ownerC c h) := fun hm j r hj h1 h2 => by rw [ownerC, res_found hm hj h1 h2]
  have A0 : Hid (Below w.heap.size w (w.alloc (.cells (cellsC c p) 26))) := (Below.refl _ _).alloc (Nat.le_refl _) _
  have BX : Hid (BoxC (w.alloc (.cells (cellsC c p) 26)) w.heap.size c p) := BoxC.new w c p
  have hcell : Hid (∀ (w' : World), BoxC w' w.heap.size c p → _) := fun w' hh => hh.all
  have hbel : Hid (∀ w' w'', BoxC w' w.heap.size c p → Below w'.heap.size w' w'' → BoxC w'' w.heap.size c p) := fun w' w'' h1 h2 => h1.below h2
  generalize mayC c = m at *
  generalize ownerC c h = V at *
  obtain ⟨oS, oB⟩ := V
  clear hL hz hs
  simp only [cv, cellsC] at *
  go_enter Try.func10, Try.ntmps10
  obtain ⟨w0, hw0⟩ : ∃ w0, w.alloc (.cells #[.int .i64 c.fi, .int .i64 c.la, .slice p.ea c.ex.length p.ec, .slice p.ra c.rs.length p.rc, .int .i64 c.ti, .string c.zo, .slice p.sa c.st.length p.sc] 26) = w0 := ⟨_, rfl⟩
  rw [hw0] at *
  clear hw0
  go_wp2
  go_loopw [6] (fun i wr => ∃ j : Nat, j ≤ c.rs.length ∧ i = .int .i64 j ∧ Hid (∀ k s, k < j → c.rs[k]? = some s → byHost h s = false) ∧ Hid (BoxC wr w.heap.size c p) ∧ Hid (Below w.heap.size w wr)) (fun i _ => c.rs.length - (intOf i).toNat)
  case atStart => exact ⟨0, Nat.zero_le _, rfl, fun k s hk => by omega, BX.out, A0.out⟩
  case round =>
    clear BX A0
    obtain ⟨j, hj, rfl, G, X, B⟩ := hrel
    obtain ⟨c0, c1, c2, c3, c4, c5, c6⟩ := hcell.out _ X.out
    by_cases hlt : j < c.rs.length
    · obtain ⟨⟨rc, rh⟩, hn⟩ : ∃ n, c.rs[j]? = some n := ⟨_, List.getElem?_eq_getElem hlt⟩
      have Hn : Hid (c.rs[j]? = some ⟨rc, rh⟩) := hn
      have hjl : (j : Int) < (c.rs.length : Int) := by omega
      clear hn
      go_wp2_with fail
      refine (HM.out _ B.out).mono ?_; rintro e w1 ⟨rfl, hb⟩
      have X1 : Hid (BoxC w1 w.heap.size c p) := hbel.out _ _ X.out hb
      have B1 : Hid (Below w.heap.size w w1) := bel_trans B.out hb
      clear c0 c1 c2 c3 c4 c5 c6 hb X B
      obtain ⟨c0, c1, c2, c3, c4, c5, c6⟩ := hcell.out _ X1.out
      cases m with
      | false =>
        have hV : Hid (_ = _) := O1.out (by first | rfl | trivial)
        go_wp2
        go_ret2
        exact ⟨by obtain ⟨rfl, rfl⟩ := Prod.mk.inj hV.out; rfl, B1.out⟩
      | true =>
        obtain ⟨x, hx, h0, h1⟩ := HR.out j _ Hn.out w1 B1.out
        rw [hx] at c3
        simp only at h0 h1
        clear hx
        by_cases hh : rh = h
        · have dm : (rh == h) = true := by simpa using hh
          have hV : Hid (_ = _) := O3.out (by first | rfl | trivial) j _ Hn.out G.out (by simp [byHost, hh])
          go_wp2
          go_ret2
          exact ⟨by obtain ⟨rfl, rfl⟩ := Prod.mk.inj hV.out; rfl, B1.out⟩
        · have dm : (rh == h) = false := by simpa using hh
          go_wp2
          go_roundw
          case rel => exact ⟨j + 1, by omega, by go_num, (fun k s hk hs => by
            by_cases e : k = j
            · subst e; have := Hn.out; rw [hs] at this; rw [Option.some.inj this]; simpa [byHost] using hh
            · exact G.out k s (by omega) hs), X1.out, B1.out⟩
          case measure => simp [intOf]; omega
    · obtain rfl : j = c.rs.length := by omega
      have hV : Hid (_ = _) := O2.out G.out
      clear hlt hj G
      go_wp2
      go_ret2
      exact ⟨by obtain ⟨rfl, rfl⟩ := Prod.mk.inj hV.out; rfl, B.out⟩
set_option maxRecDepth 100000 in
set_option maxHeartbeats 1000000 in
theorem rReserved_c (c : Cf) (p : CPl) (h : ByteArray) (w : World) (hL : CfLies w c p) (hl : c.rs.length ≤ 10000000000000) (hz : c.zo.size ≤ 1048576) (hs : ∀ r ∈ c.st, r.n.size ≤ 1048576 ∧ r.tg.size ≤ 1048576) :
    Calls Try.prog 12 #[cv c p, .string h] w fun e w' => e = .returned (.tuple #[.int .i64 (reservedC c h).1, .bool (reservedC c h).2]) ∧ Below w.heap.size w w' := by
  have HM : Hid (∀ w', Below w.heap.size w w' → _) := fun w' hb => rMay_c c p w' (hL.below hb) hz hs
  have HR : Hid (∀ k r, c.rs[k]? = some r → ∀ w', Below w.heap.size w w' → ∃ x, p.ra = some x ∧ RsvFrom w' (x.add (k * 2)) r) := fun k n hk w' hb => by
    rcases hL.r.below hb with h | ⟨x, h1, h2⟩
    · rw [h] at hk; simp at hk
    · exact ⟨x, h1, h2 k n hk⟩
  have O1 : Hid (mayC c = false → (0, false) = reservedC c h) := fun hm => by rw [reservedC, res_no hm]; rfl
  have O2 : Hid ((∀ k s, k < c.rs.length → c.rs[k]? = some s → byClient h s = false) → (0, false) = reservedC c h) := fun hh => by rw [reservedC, res_none hh]; rfl
  have O3 : Hid (mayC c = true → ∀ j r, c.rs[j]? = some r → (∀ k s, k < j → c.rs[k]? = some s → byClient h s = false) → byClient h r = true → (r.h, true) = reservedC c h) := fun hm j r hj h1 h2 => by rw [reservedC, res_found hm hj h1 h2]
  have A0 : Hid (Below w.heap.size w (w.alloc (.cells (cellsC c p) 26))) := (Below.refl _ _).alloc (Nat.le_refl _) _
  have BX : Hid (BoxC (w.alloc (.cells (cellsC c p) 26)) w.heap.size c p) := BoxC.new w c p
  have hcell : Hid (∀ (w' : World), BoxC w' w.heap.size c p → _) := fun w' hh => hh.all
  have hbel : Hid (∀ w' w'', BoxC w' w.heap.size c p → Below w'.heap.size w' w'' → BoxC w'' w.heap.size c p) := fun w' w'' h1 h2 => h1.below h2
  generalize mayC c = m at *
  generalize reservedC c h = V at *
  obtain ⟨oS, oB⟩ := V
  clear hL hz hs
  simp only [cv, cellsC] at *
  go_enter Try.func12, Try.ntmps12
  obtain ⟨w0, hw0⟩ : ∃ w0, w.alloc (.cells #[.int .i64 c.fi, .int .i64 c.la, .slice p.ea c.ex.length p.ec, .slice p.ra c.rs.length p.rc, .int .i64 c.ti, .string c.zo, .slice p.sa c.st.length p.sc] 26) = w0 := ⟨_, rfl⟩
  rw [hw0] at *
  clear hw0
  go_wp2
  go_loopw [6] (fun i wr => ∃ j : Nat, j ≤ c.rs.length ∧ i = .int .i64 j ∧ Hid (∀ k s, k < j → c.rs[k]? = some s → byClient h s = false) ∧ Hid (BoxC wr w.heap.size c p) ∧ Hid (Below w.heap.size w wr)) (fun i _ => c.rs.length - (intOf i).toNat)
  case atStart => exact ⟨0, Nat.zero_le _, rfl, fun k s hk => by omega, BX.out, A0.out⟩
  case round =>
    clear BX A0
    obtain ⟨j, hj, rfl, G, X, B⟩ := hrel
    obtain ⟨c0, c1, c2, c3, c4, c5, c6⟩ := hcell.out _ X.out
    by_cases hlt : j < c.rs.length
    · obtain ⟨⟨rc, rh⟩, hn⟩ : ∃ n, c.rs[j]? = some n := ⟨_, List.getElem?_eq_getElem hlt⟩
      have Hn : Hid (c.rs[j]? = some ⟨rc, rh⟩) := hn
      have hjl : (j : Int) < (c.rs.length : Int) := by omega
      clear hn
      go_wp2_with fail
      refine (HM.out _ B.out).mono ?_; rintro e w1 ⟨rfl, hb⟩
      have X1 : Hid (BoxC w1 w.heap.size c p) := hbel.out _ _ X.out hb
      have B1 : Hid (Below w.heap.size w w1) := bel_trans B.out hb
      clear c0 c1 c2 c3 c4 c5 c6 hb X B
      obtain ⟨c0, c1, c2, c3, c4, c5, c6⟩ := hcell.out _ X1.out
      cases m with
      | false =>
        have hV : Hid (_ = _) := O1.out (by first | rfl | trivial)
        go_wp2
        go_ret2
        exact ⟨by obtain ⟨rfl, rfl⟩ := Prod.mk.inj hV.out; rfl, B1.out⟩
      | true =>
        obtain ⟨x, hx, h0, h1⟩ := HR.out j _ Hn.out w1 B1.out
        rw [hx] at c3
        simp only at h0 h1
        clear hx
        cases dm : (rc.toList == h.toList) with
        | true =>
          have hV : Hid (_ = _) := O3.out (by first | rfl | trivial) j _ Hn.out G.out dm
          go_wp2
          go_ret2
          exact ⟨by obtain ⟨rfl, rfl⟩ := Prod.mk.inj hV.out; rfl, B1.out⟩
        | false =>
          have HD : Hid (_ = false) := dm
          go_wp2
          go_roundw
          case rel => exact ⟨j + 1, by omega, by go_num, (fun k s hk hs => by
            by_cases e : k = j
            · subst e; have := Hn.out; rw [hs] at this; rw [Option.some.inj this]; exact HD.out
            · exact G.out k s (by omega) hs), X1.out, B1.out⟩
          case measure => simp [intOf]; omega
    · obtain rfl : j = c.rs.length := by omega
      have hV : Hid (_ = _) := O2.out G.out
      clear hlt hj G
      go_wp2
      go_ret2
      exact ⟨by obtain ⟨rfl, rfl⟩ := Prod.mk.inj hV.out; rfl, B.out⟩
set_option maxRecDepth 100000 in
set_option maxHeartbeats 1000000 in
theorem rUsable_c (c : Cf) (p : CPl) (h : Int) (w : World) (hL : CfLies w c p) (hl : c.ex.length ≤ 10000000000000) (hz : c.zo.size ≤ 1048576) (hs : ∀ r ∈ c.st, r.n.size ≤ 1048576 ∧ r.tg.size ≤ 1048576) :
    Calls Try.prog 18 #[cv c p, .int .i64 h] w fun e w' => e = .returned (.bool (usableC c h)) ∧ Below w.heap.size w w' := by
  have HM : Hid (∀ w', Below w.heap.size w w' → _) := fun w' hb => rMay_c c p w' (hL.below hb) hz hs
  have HE : Hid (∀ k n, c.ex[k]? = some n → ∀ w', Below w.heap.size w w' → ∃ x, p.ea = some x ∧ w'.cell? (x.add k) = some (.int .i64 n)) := fun k n hk w' hb => by
    rcases hL.e.below hb with h | ⟨x, h1, h2⟩
    · rw [h] at hk; simp at hk
    · exact ⟨x, h1, h2 k n hk⟩
  have O1 : Hid (mayC c = false → usableC c h = false) := fun hm => usable_no h hm
  have O2 : Hid (h < c.fi → usableC c h = false) := fun hh => by simp only [usableC, betw, Bool.and_eq_false_iff, decide_eq_false_iff_not]; omega
  have O3 : Hid (c.la < h → usableC c h = false) := fun hh => by simp only [usableC, betw, Bool.and_eq_false_iff, decide_eq_false_iff_not]; omega
  have O4 : Hid (∀ k, c.ex[k]? = some h → usableC c h = false) := fun k hk => by
    have : c.ex.contains h = true := by rw [List.contains_iff_mem]; exact List.mem_of_getElem? hk
    simp only [usableC, this, Bool.not_true, Bool.and_false]
  have O5 : Hid (mayC c = true → ¬ h < c.fi → ¬ c.la < h → (∀ k n, k < c.ex.length → c.ex[k]? = some n → n ≠ h) → usableC c h = true) := fun hm h1 h2 h3 => by
    have e1 : betw c.fi h c.la = true := (betw_iff _ _ _).2 ⟨by omega, by omega⟩
    have e2 : c.ex.contains h = false := by
      rw [Bool.eq_false_iff]
      intro e
      rw [List.contains_iff_mem] at e
      obtain ⟨k, hk, e⟩ := List.mem_iff_getElem.1 e
      exact h3 k _ hk (List.getElem?_eq_getElem hk) e
    rw [usableC, hm, e1, e2]; rfl
  have A0 : Hid (Below w.heap.size w (w.alloc (.cells (cellsC c p) 26))) := (Below.refl _ _).alloc (Nat.le_refl _) _
  have BX : Hid (BoxC (w.alloc (.cells (cellsC c p) 26)) w.heap.size c p) := BoxC.new w c p
  have hcell : Hid (∀ (w' : World), BoxC w' w.heap.size c p → _) := fun w' hh => hh.all
  have hbel : Hid (∀ w' w'', BoxC w' w.heap.size c p → Below w'.heap.size w' w'' → BoxC w'' w.heap.size c p) := fun w' w'' h1 h2 => h1.below h2
  generalize mayC c = m at *
  generalize usableC c h = V at *
  clear hL hz hs
  simp only [cv, cellsC] at *
  go_enter Try.func18, Try.ntmps18
  obtain ⟨w0, hw0⟩ : ∃ w0, w.alloc (.cells #[.int .i64 c.fi, .int .i64 c.la, .slice p.ea c.ex.length p.ec, .slice p.ra c.rs.length p.rc, .int .i64 c.ti, .string c.zo, .slice p.sa c.st.length p.sc] 26) = w0 := ⟨_, rfl⟩
  rw [hw0] at *
  clear hw0
  obtain ⟨c0, c1, c2, c3, c4, c5, c6⟩ := hcell.out _ BX.out
  go_wp2_with fail
  refine (HM.out _ A0.out).mono ?_; rintro e w1 ⟨rfl, hb⟩
  have X1 : Hid (BoxC w1 w.heap.size c p) := hbel.out _ _ BX.out hb
  have B1 : Hid (Below w.heap.size w w1) := bel_trans A0.out hb
  clear c0 c1 c2 c3 c4 c5 c6 hb BX A0 HM
  obtain ⟨c0, c1, c2, c3, c4, c5, c6⟩ := hcell.out _ X1.out
  cases m with
  | false =>
    have hV : Hid (V = false) := O1.out (by first | rfl | trivial)
    go_wp2
    go_ret
    exact ⟨ret_bool (by simp [hV.out]), B1.out⟩
  | true =>
    by_cases g1 : h < c.fi
    · have hV : Hid (V = false) := O2.out g1
      have d1 : decide (h < c.fi) = true := by simpa using g1
      go_wp2
      go_ret
      exact ⟨ret_bool (by simp [hV.out]), B1.out⟩
    have d1 : decide (h < c.fi) = false := by simpa using g1
    by_cases g2 : c.la < h
    · have hV : Hid (V = false) := O3.out g2
      have d2 : decide (c.la < h) = true := by simpa using g2
      go_wp2
      go_ret
      exact ⟨ret_bool (by simp [hV.out]), B1.out⟩
    have d2 : decide (c.la < h) = false := by simpa using g2
    go_wp2
    clear c0 c1 c2 c3 c4 c5 c6
    go_loopw [5] (fun i wr => ∃ j : Nat, j ≤ c.ex.length ∧ i = .int .i64 j ∧ Hid (∀ k n, k < j → c.ex[k]? = some n → n ≠ h) ∧ Hid (BoxC wr w.heap.size c p) ∧ Hid (Below w.heap.size w wr)) (fun i _ => c.ex.length - (intOf i).toNat)
    case atStart => exact ⟨0, Nat.zero_le _, rfl, fun k s hk => by omega, X1.out, B1.out⟩
    case round =>
      clear X1 B1
      obtain ⟨j, hj, rfl, G, X, B⟩ := hrel
      obtain ⟨c0, c1, c2, c3, c4, c5, c6⟩ := hcell.out _ X.out
      by_cases hlt : j < c.ex.length
      · obtain ⟨n, hn⟩ : ∃ n, c.ex[j]? = some n := ⟨_, List.getElem?_eq_getElem hlt⟩
        have Hn : Hid (c.ex[j]? = some n) := hn
        have hjl : (j : Int) < (c.ex.length : Int) := by omega
        obtain ⟨x, hx, hc⟩ := HE.out j n hn _ B.out
        rw [hx] at c2
        clear hn hx
        by_cases hh : n = h
        · have dm : (n == h) = true := by simpa using hh
          have hV : Hid (V = false) := O4.out j (by rw [Hn.out, hh])
          go_wp2
          go_ret
          exact ⟨ret_bool (by simp [hV.out]), B.out⟩
        · have dm : (n == h) = false := by simpa using hh
          go_wp2
          go_roundw
          case rel => exact ⟨j + 1, by omega, by go_num, (fun k s hk hs => by
            by_cases e : k = j
            · subst e; have := Hn.out; rw [hs] at this; rw [Option.some.inj this]; exact hh
            · exact G.out k s (by omega) hs), X.out, B.out⟩
          case measure => simp [intOf]; omega
      · obtain rfl : j = c.ex.length := by omega
        have hV : Hid (V = true) := O5.out (by first | rfl | trivial) g1 g2 G.out
        clear hlt hj G
        go_wp2
        go_ret
        exact ⟨ret_bool (by simp [hV.out]), B.out⟩

end Go.Proofs.Ytedbihckdbpebaa
