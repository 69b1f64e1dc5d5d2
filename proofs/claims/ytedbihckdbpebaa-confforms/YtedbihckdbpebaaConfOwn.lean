/-
  Contracts of package conf's Usable, Owner and Reserved, at every configuration: what each answers.
-/
import Derived.Test.YtedbihckdbpebaaConfAsk
namespace Go.Proofs.Ytedbihckdbpebaa
open Go.ChangeShapes Go.WideShapes Go.ChangeAt Go.RowKit Go.Pin Go.PlainAid

theorem clone_text (s : ByteArray) (w : World) (hs : s.size ≤ 281474976710656) : Calls Try.prog 27 #[.string s] w fun e w' => e = .returned (.string s) ∧ Below w.heap.size w w' := by
  have H : Hid (∀ w, _) := fun w => Try.stringslite_Clone s w hs
  clear hs
  go_enter Try.func27, Try.ntmps27
  go_wp2_with fail
  refine (H.out _).mono ?_; rintro e w1 ⟨rfl, hb⟩
  go_wp2
  go_ret
  exact ⟨rfl, hb⟩
theorem res_small (c : Cf) (q : Rsv → Bool) : (resC c q).1.c.size ≤ 16 := by
  unfold resC
  split
  · rename_i hm
    obtain ⟨_, _, h, _⟩ := (mayC_iff c).1 hm
    simp only [rsB, clsB, Bool.and_eq_true, decide_eq_true_eq] at h
    split
    · rename_i r hr
      have hmem := List.mem_of_find?_eq_some hr
      have := (betw_iff _ _ _).1 (List.all_eq_true.1 h.2.2.1 (bs r.c) (List.mem_map.2 ⟨r, hmem, rfl⟩))
      rw [length_bs] at this
      simp only; omega
    · exact Nat.zero_le _
  · exact Nat.zero_le _

set_option maxHeartbeats 400000 in
theorem owner_c (c : Cf) (p : CPl) (h : Int) (w : World) (hL : CfLies w c p) (hF : CfFits c) :
    Calls Try.prog 9 #[cv c p, .int .i64 h] w fun e w' => e = .returned (.tuple #[.string (ownerC c h).1, .bool (ownerC c h).2]) ∧ Below w.heap.size w w' := by
  obtain ⟨w0, hw0⟩ : ∃ w0, (w.alloc (.cells (cellsC c p) 26)).alloc (.cells #[.int .i64 h] 3) = w0 := ⟨_, rfl⟩
  have hb0 : Below w.heap.size w w0 := by rw [← hw0]; exact ((Below.refl _ _).alloc (Nat.le_refl _) _).alloc (by simp) _
  have hc : w0.cell? ⟨w.heap.size + 1, 0, none⟩ = some (.int .i64 h) := by
    have e : w.heap.size + 1 = (w.alloc (.cells (cellsC c p) 26)).heap.size := by simp
    rw [← hw0, e]; exact new_cell _ _ _ 0 _ rfl
  have hX : BoxC w0 w.heap.size c p := by rw [← hw0]; exact (BoxC.new w c p).below ((Below.refl _ _).alloc (Nat.le_refl _) _)
  have hR := reserveH_c c p w0 ⟨w.heap.size + 1, 0, none⟩ (byHost h) (hL.below hb0) hF fun r wr hbr => isHost_c h _ r wr ((hbr.cell (World.block_lt_of_cell? w0 _ hc)).trans hc)
  have HR : Hid (∀ _ : Unit, _) := fun _ => hR
  have HC : Hid (∀ w, _) := fun w => clone_text (resC c (byHost h)).1.c w (by have := res_small c (byHost h); omega)
  have B0 : Hid (Below w.heap.size w w0) := hb0
  have X0 : Hid (BoxC w0 w.heap.size c p) := hX
  unfold ownerC
  generalize resC c (byHost h) = R at *
  obtain ⟨⟨rc, rh⟩, b⟩ := R
  simp only at HC ⊢
  have hcell : Hid (∀ (w' : World), BoxC w' w.heap.size c p → _) := fun w' hh => hh.all
  clear hL hF hR hc hX hb0
  have Hw0 : Hid (_ = w0) := hw0
  clear hw0
  simp only [cv, cellsC, qv] at *
  go_enter Try.func9, Try.ntmps9
  go_upto_region 1 with fail
  rw [Hw0.out]
  clear Hw0
  obtain ⟨c0, c1, c2, c3, c4, c5, c6⟩ := hcell.out _ X0.out
  go_wp2_with fail
  refine (HR.out ()).mono ?_; rintro e w1 ⟨rfl, hb⟩
  have B1 : Hid (Below w.heap.size w w1) := bel_trans B0.out hb
  clear c0 c1 c2 c3 c4 c5 c6 hb HR X0 B0 hcell
  go_wp2_with fail
  refine (HC.out _).mono ?_; rintro e w2 ⟨rfl, hb⟩
  go_wp2
  go_ret2
  exact ⟨rfl, bel_trans (B1.out.alloc B1.out.size _) hb⟩

set_option maxHeartbeats 400000 in
theorem reserved_c (c : Cf) (p : CPl) (s : ByteArray) (w : World) (hL : CfLies w c p) (hF : CfFits c) :
    Calls Try.prog 11 #[cv c p, .string s] w fun e w' => e = .returned (.tuple #[.int .i64 (reservedC c s).1, .bool (reservedC c s).2]) ∧ Below w.heap.size w w' := by
  obtain ⟨w0, hw0⟩ : ∃ w0, (w.alloc (.cells (cellsC c p) 26)).alloc (.cells #[.string s] 9) = w0 := ⟨_, rfl⟩
  have hb0 : Below w.heap.size w w0 := by rw [← hw0]; exact ((Below.refl _ _).alloc (Nat.le_refl _) _).alloc (by simp) _
  have hc : w0.cell? ⟨w.heap.size + 1, 0, none⟩ = some (.string s) := by
    have e : w.heap.size + 1 = (w.alloc (.cells (cellsC c p) 26)).heap.size := by simp
    rw [← hw0, e]; exact new_cell _ _ _ 0 _ rfl
  have hX : BoxC w0 w.heap.size c p := by rw [← hw0]; exact (BoxC.new w c p).below ((Below.refl _ _).alloc (Nat.le_refl _) _)
  have hR := reserveC_c c p w0 ⟨w.heap.size + 1, 0, none⟩ (byClient s) (hL.below hb0) hF fun r wr hbr => isClient_c s _ r wr ((hbr.cell (World.block_lt_of_cell? w0 _ hc)).trans hc)
  have HR : Hid (∀ _ : Unit, _) := fun _ => hR
  have B0 : Hid (Below w.heap.size w w0) := hb0
  have X0 : Hid (BoxC w0 w.heap.size c p) := hX
  unfold reservedC
  generalize resC c (byClient s) = R at *
  obtain ⟨⟨rc, rh⟩, b⟩ := R
  simp only
  have hcell : Hid (∀ (w' : World), BoxC w' w.heap.size c p → _) := fun w' hh => hh.all
  clear hL hF hR hc hX hb0
  have Hw0 : Hid (_ = w0) := hw0
  clear hw0
  simp only [cv, cellsC, qv] at *
  go_enter Try.func11, Try.ntmps11
  go_upto_region 1 with fail
  rw [Hw0.out]
  clear Hw0
  obtain ⟨c0, c1, c2, c3, c4, c5, c6⟩ := hcell.out _ X0.out
  go_wp2_with fail
  refine (HR.out ()).mono ?_; rintro e w1 ⟨rfl, hb⟩
  have B1 : Hid (Below w.heap.size w w1) := bel_trans B0.out hb
  clear c0 c1 c2 c3 c4 c5 c6 hb HR X0 B0 hcell
  go_wp2
  go_ret2
  exact ⟨rfl, B1.out.alloc B1.out.size _⟩

/-! ### usable -/
theorem indexI_none (a : Option Addr) (cap : Nat) (h : Int) (w : World) :
    Calls Try.prog 57 #[.slice a 0 cap, .int .i64 h] w fun e w' => e = .returned (.int .i64 (-1)) ∧ w' = w := by
  go_enter Try.func57, Try.ntmps57
  go_wp2
  go_rounds 1
  go_ret
  exact ⟨rfl, rfl⟩
theorem indexI_from (x : Addr) (cap : Nat) (xs : List Int) (h : Int) (w : World) (hl : xs.length ≤ 1000000) (hx : ∀ j n, xs[j]? = some n → w.cell? (x.add j) = some (.int .i64 n)) :
    Calls Try.prog 57 #[.slice (some x) xs.length cap, .int .i64 h] w fun e w' => (∃ i : Int, e = .returned (.int .i64 i) ∧ decide (0 ≤ i) = xs.contains h) ∧ w' = w := by
  have H : Hid (∀ j, (hj : j < xs.length) → w.cell? (x.add j) = some (.int .i64 xs[j]) ∧ ((h == xs[j]) = true → xs.contains h = true)) := fun j hj => ⟨hx j _ (List.getElem?_eq_getElem hj), fun e => by
    rw [beq_iff_eq] at e
    rw [List.contains_iff_mem, e]; exact List.getElem_mem hj⟩
  have Hno : Hid ((∀ j, (hj : j < xs.length) → (h == xs[j]) = false) → xs.contains h = false) := fun hh => by
    cases hc : xs.contains h with
    | false => rfl
    | true =>
      rw [List.contains_iff_mem] at hc
      obtain ⟨k, hk, e⟩ := List.mem_iff_getElem.1 hc
      have := hh k hk
      rw [e] at this; simp at this
  generalize xs.contains h = V at *
  clear hx
  go_enter Try.func57, Try.ntmps57
  go_wp2
  go_loopw [8] (fun i wr => ∃ j : Nat, j ≤ xs.length ∧ i = .int .i64 j ∧ Hid (∀ k, (hk : k < xs.length) → k < j → (h == xs[k]) = false) ∧ wr = w) (fun i _ => xs.length - (intOf i).toNat)
  case atStart => exact ⟨0, Nat.zero_le _, rfl, fun k hk hk0 => by omega, rfl⟩
  case round =>
    obtain ⟨j, hj, rfl, hall, rfl⟩ := hrel
    by_cases hlt : j < xs.length
    · obtain ⟨hc, hyes⟩ := H.out j hlt
      have HY : Hid (_ → _) := hyes
      have hall' : Hid ((h == xs[j]) = false → ∀ k, (hk : k < xs.length) → k < j + 1 → (h == xs[k]) = false) := fun hk k hkl hk1 => by
        by_cases e : k = j
        · subst e; exact hk
        · exact hall.out k hkl (by omega)
      clear hall hyes
      generalize xs[j] = n at *
      cases hk : (h == n) with
      | true =>
        have HV : Hid (V = true) := HY.out hk
        clear hall' HY
        go_wp2
        go_ret
        exact ⟨⟨j, rfl, by rw [HV.out]; simp⟩, rfl⟩
      | false =>
        have Hall : Hid (∀ k, (hk : k < xs.length) → k < j + 1 → (h == xs[k]) = false) := hall'.out hk
        clear hall' HY
        go_wp2
        go_roundw
        case rel => exact ⟨j + 1, by omega, by go_num, Hall, trivial⟩
        case measure => simp [intOf]; omega
    · obtain rfl : j = xs.length := by omega
      have HV : Hid (V = false) := Hno.out fun k hk => hall.out k hk hk
      go_wp2
      go_ret
      exact ⟨⟨-1, rfl, by rw [HV.out]; rfl⟩, rfl⟩
theorem hasI_c (a : Option Addr) (cap : Nat) (xs : List Int) (h : Int) (w : World) (hl : xs.length ≤ 1000000) (hx : NumsLie w a xs) :
    Calls Try.prog 39 #[.slice a xs.length cap, .int .i64 h] w fun e w' => e = .returned (.bool (xs.contains h)) ∧ w' = w := by
  have HC : Hid (Calls Try.prog 57 #[.slice a xs.length cap, .int .i64 h] w fun e w' => (∃ i : Int, e = .returned (.int .i64 i) ∧ decide (0 ≤ i) = xs.contains h) ∧ w' = w) := by
    rcases hx with rfl | ⟨x, rfl, hx⟩
    · exact (indexI_none a cap h w).mono fun e w' ⟨h1, h2⟩ => ⟨⟨-1, h1, rfl⟩, h2⟩
    · exact indexI_from x cap xs h w hl hx
  generalize xs.contains h = V at *
  clear hx hl
  go_enter Try.func39, Try.ntmps39
  go_wp2_with fail
  refine HC.out.mono ?_; rintro e w1 ⟨⟨i, rfl, hi⟩, rfl⟩
  have Hi : Hid (decide (0 ≤ i) = V) := hi
  clear hi
  go_wp2
  go_ret
  exact ⟨ret_bool Hi.out, rfl⟩

set_option maxHeartbeats 400000 in
theorem usable_c (c : Cf) (p : CPl) (h : Int) (w : World) (hL : CfLies w c p) (hF : CfFits c) :
    Calls Try.prog 17 #[cv c p, .int .i64 h] w fun e w' => e = .returned (.bool (usableC c h)) ∧ Below w.heap.size w w' := by
  have HM : Hid (∀ w', Below w.heap.size w w' → _) := fun w' hb => cMay_c c p w' (hL.below hb) hF
  have HW : Hid (∀ w, _) := fun w => cWithin_c c.fi h c.la w
  have HI : Hid (mayC c = true → ∀ w', Below w.heap.size w w' → _) := fun hm w' hb => hasI_c p.ea p.ec c.ex h w' (by have := may_sizes hm; omega) (hL.e.below hb)
  have hv : Hid (usableC c h = (mayC c && betw c.fi h c.la && !(c.ex.contains h))) := rfl
  have BX : Hid (BoxC (w.alloc (.cells (cellsC c p) 26)) w.heap.size c p) := BoxC.new w c p
  have A0 : Hid (Below w.heap.size w (w.alloc (.cells (cellsC c p) 26))) := (Below.refl _ _).alloc (Nat.le_refl _) _
  have hcell : Hid (∀ (w' : World), BoxC w' w.heap.size c p → _) := fun w' hh => hh.all
  have hbel : Hid (∀ w' w'', BoxC w' w.heap.size c p → Below w'.heap.size w' w'' → BoxC w'' w.heap.size c p) := fun w' w'' h1 h2 => h1.below h2
  generalize usableC c h = V at *
  generalize mayC c = v1 at *
  generalize betw c.fi h c.la = v2 at *
  generalize c.ex.contains h = v3 at *
  clear hL hF
  simp only [cv, cellsC] at *
  go_enter Try.func17, Try.ntmps17
  obtain ⟨w0, hw0⟩ : ∃ w0, w.alloc (.cells #[.int .i64 c.fi, .int .i64 c.la, .slice p.ea c.ex.length p.ec, .slice p.ra c.rs.length p.rc, .int .i64 c.ti, .string c.zo, .slice p.sa c.st.length p.sc] 26) = w0 := ⟨_, rfl⟩
  rw [hw0] at *
  clear hw0
  obtain ⟨c0, c1, c2, c3, c4, c5, c6⟩ := hcell.out _ BX.out
  go_wp2_with fail
  refine (HM.out _ A0.out).mono ?_; rintro e w2 ⟨rfl, hb⟩
  have X2 : Hid (BoxC w2 w.heap.size c p) := hbel.out _ _ BX.out hb
  have B2 : Hid (Below w.heap.size w w2) := bel_trans A0.out hb
  clear c0 c1 c2 c3 c4 c5 c6 hb BX A0
  obtain ⟨c0, c1, c2, c3, c4, c5, c6⟩ := hcell.out _ X2.out
  cases v1
  · go_wp2
    go_ret
    exact ⟨ret_bool (by simp [hv.out]), B2.out⟩
  go_wp2_with fail
  refine (HW.out _).mono ?_; rintro e w3 ⟨rfl, rfl⟩
  cases v2
  · go_wp2
    go_ret
    exact ⟨ret_bool (by simp [hv.out]), B2.out⟩
  go_wp2_with fail
  refine (HI.out trivial _ B2.out).mono ?_; rintro e w4 ⟨rfl, rfl⟩
  go_wp2
  go_ret
  exact ⟨ret_bool (by simp [hv.out]), B2.out⟩

end Go.Proofs.Ytedbihckdbpebaa
