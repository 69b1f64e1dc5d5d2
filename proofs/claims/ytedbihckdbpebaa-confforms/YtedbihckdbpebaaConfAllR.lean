/-
  Contracts of package conf's all, at lists of records, and of what it asks about each.
-/
import Derived.Test.YtedbihckdbpebaaConfOnce
import Derived.Test.YtedbihckdbpebaaBName
namespace Go.Proofs.Ytedbihckdbpebaa
open Go.ChangeShapes Go.WideShapes Go.ChangeAt Go.RowKit Go.Pin Go.PlainAid

theorem idxR_none (a : Option Addr) (cap : Nat) (f : Value) (w : World) :
    Calls Try.prog 78 #[.slice a 0 cap, f] w fun e w' => e = .returned (.int .i64 (-1)) ∧ w' = w := by
  go_enter Try.func78, Try.ntmps78
  go_wp2
  go_rounds 1
  go_ret
  exact ⟨rfl, rfl⟩
set_option maxHeartbeats 400000 in
theorem idxR_from (x : Addr) (cap : Nat) (xs : List Rec) (w : World) (cp : Addr) (q : Rec → Bool) (hl : xs.length ≤ 1000000) (h : ∀ j n, xs[j]? = some n → RecFrom w (x.add (j * 7)) n)
    (hf : ∀ c ∈ xs, ∀ wr, Below w.heap.size w wr → Calls Try.prog 66 #[rv c, .pointer (some cp)] wr fun e w' => e = .returned (.bool (!q c)) ∧ Below wr.heap.size wr w') :
    Calls Try.prog 78 #[.slice (some x) xs.length cap, .func (.func 66) #[] #[.pointer (some cp)]] w fun e w' => (∃ i : Int, e = .returned (.int .i64 i) ∧ decide (0 ≤ i) = !xs.all q) ∧ Below w.heap.size w w' := by
  have H : Hid (∀ j, (hj : j < xs.length) → (let n := xs[j]; RecFrom w (x.add (j * 7)) n) ∧ (let c := xs[j]; ∀ wr, Below w.heap.size w wr → Calls Try.prog 66 #[rv c, .pointer (some cp)] wr fun e w' => e = .returned (.bool (!q c)) ∧ Below wr.heap.size wr w') ∧ (q xs[j] = false → xs.all q = false)) := fun j hj => ⟨h j _ (List.getElem?_eq_getElem hj), hf _ (List.getElem_mem hj), all_not (List.getElem?_eq_getElem hj)⟩
  have Hyes : Hid ((∀ j, (hj : j < xs.length) → q xs[j] = true) → xs.all q = true) := fun hh => all_of_get fun j y hy => by
    obtain ⟨hj, rfl⟩ := List.getElem?_eq_some_iff.1 hy
    exact hh j hj
  generalize xs.all q = V at *
  clear h hf
  go_enter Try.func78, Try.ntmps78
  go_wp2
  go_loopw [8] (fun i wr => ∃ j : Nat, j ≤ xs.length ∧ i = .int .i64 j ∧ Hid (∀ k, (hk : k < xs.length) → k < j → q xs[k] = true) ∧ Below w.heap.size w wr) (fun i _ => xs.length - (intOf i).toNat)
  case atStart => exact ⟨0, Nat.zero_le _, rfl, fun k hk hk0 => by omega, Below.refl _ _⟩
  case round =>
    obtain ⟨j, hj, rfl, hall, B⟩ := hrel
    by_cases hlt : j < xs.length
    · obtain ⟨hc, hd, hno⟩ := H.out j hlt
      have hcall := hd wr B
      have HC : Hid (∀ _ : Unit, _) := fun _ => hcall
      have HN : Hid (_) := hno
      have hall' : Hid (q xs[j] = true → ∀ k, (hk : k < xs.length) → k < j + 1 → q xs[k] = true) := fun hk k hkl hk1 => by
        by_cases e : k = j
        · subst e; exact hk
        · exact hall.out k hkl (by omega)
      clear hall hno hd hcall
      generalize xs[j] = c at *
      obtain ⟨h0, h1, h2, h3, h4, h5, h6⟩ := hc.below B hc.lt
      clear hc
      generalize q c = qc at HC HN hall' ⊢
      obtain ⟨n, ty, ttl, ad, tg, tx, se⟩ := c
      simp only [rv] at HC h0 h1 h2 h3 h4 h5 h6
      cases hk : qc with
      | false =>
        rw [hk] at HC
        have HV : Hid (V = false) := HN.out hk
        clear hk hall' HN
        go_wp2_with fail
        refine (HC.out ()).mono ?_; rintro e w1 ⟨rfl, hb1⟩
        replace B := B.trans (hb1.mono B.size)
        clear h0 h1 h2 h3 h4 h5 h6 hb1
        go_wp2
        go_ret
        exact ⟨⟨j, rfl, by rw [HV.out]; simp⟩, B⟩
      | true =>
        rw [hk] at HC
        have Hall : Hid (∀ k, (hk : k < xs.length) → k < j + 1 → q xs[k] = true) := hall'.out hk
        clear hk hall' HN
        go_wp2_with fail
        refine (HC.out ()).mono ?_; rintro e w1 ⟨rfl, hb1⟩
        replace B := B.trans (hb1.mono B.size)
        clear h0 h1 h2 h3 h4 h5 h6 hb1
        go_wp2
        go_roundw
        case rel => exact ⟨j + 1, by omega, by go_num, Hall, B⟩
        case measure => simp [intOf]; omega
    · obtain rfl : j = xs.length := by omega
      have HV : Hid (V = true) := Hyes.out fun k hk => hall.out k hk hk
      go_wp2
      go_ret
      exact ⟨⟨-1, rfl, by rw [HV.out]; rfl⟩, B⟩
theorem holdsR_c (a : Option Addr) (cap : Nat) (xs : List Rec) (w : World) (cp : Addr) (q : Rec → Bool) (hl : xs.length ≤ 1000000) (h : xs = [] ∨ ∃ x, a = some x ∧ ∀ j n, xs[j]? = some n → RecFrom w (x.add (j * 7)) n)
    (hf : ∀ c ∈ xs, ∀ wr, Below w.heap.size w wr → Calls Try.prog 66 #[rv c, .pointer (some cp)] wr fun e w' => e = .returned (.bool (!q c)) ∧ Below wr.heap.size wr w') :
    Calls Try.prog 65 #[.slice a xs.length cap, .func (.func 66) #[] #[.pointer (some cp)]] w fun e w' => e = .returned (.bool (!xs.all q)) ∧ Below w.heap.size w w' := by
  have HC : Hid (Calls Try.prog 78 #[.slice a xs.length cap, .func (.func 66) #[] #[.pointer (some cp)]] w fun e w' => (∃ i : Int, e = .returned (.int .i64 i) ∧ decide (0 ≤ i) = !xs.all q) ∧ Below w.heap.size w w') := by
    rcases h with rfl | ⟨x, rfl, h⟩
    · exact (idxR_none a cap _ w).mono fun e w' ⟨h1, h2⟩ => ⟨⟨-1, h1, rfl⟩, by rw [h2]; exact Below.refl _ _⟩
    · exact idxR_from x cap xs w cp q hl h hf
  generalize (!xs.all q) = V at *
  clear h hf
  go_enter Try.func65, Try.ntmps65
  go_wp2_with fail
  refine HC.out.mono ?_; rintro e w1 ⟨⟨i, rfl, hi⟩, hb1⟩
  have Hi : Hid (decide (0 ≤ i) = V) := hi
  clear hi
  go_wp2
  go_ret
  exact ⟨ret_bool Hi.out, hb1⟩

set_option maxHeartbeats 400000 in
theorem statIn_c (r : Rec) (b : Nat) (c : Cf) (p : CPl) (w : World) (hX : BoxC w b c p) (hr : IsRec r) (hz : c.zo.size ≤ maxLen) :
    Calls Try.prog 49 #[rv r, .pointer (some ⟨b, 0, none⟩)] w fun e w' => e = .returned (.bool (statB c.zo r)) ∧ Below w.heap.size w w' := by
  have HS : Hid (∀ w, _) := fun w => stands_c r.ty w
  have HM : Hid (∀ w, _) := fun w => rrMay_c r w hr.1 hr.2.1
  have HU : Hid (∀ w, _) := fun w => under_c r.n c.zo w hr.1 hz
  have HZ : Hid (∀ w', Below w.heap.size w w' → w'.cell? ⟨b, 5, none⟩ = some (.string c.zo)) := fun w' hb => (hX.below hb).cell 5
  have HR : Hid (∀ t, _) := fun t => RecAt.new w r t
  have hv : Hid (statB c.zo r = (standT r.ty && mayR r && !(r.n.toList == c.zo.toList) && underL (bs r.n) (bs c.zo))) := rfl
  generalize statB c.zo r = V at *
  generalize standT r.ty = k1 at *
  generalize mayR r = k2 at *
  generalize underL (bs r.n) (bs c.zo) = k4 at *
  generalize c.zo = z at *
  clear hX hr hz
  obtain ⟨n, ty, ttl, ad, tg, tx, se⟩ := r
  simp only [rv] at HS HM HU HR hv ⊢
  go_enter Try.func49, Try.ntmps49
  have A0 : Hid (Below w.heap.size w (w.alloc (.cells #[.string n, .int .i64 ty, .int .i64 ttl, .int .i64 ad, .string tg, .string tx, .int .i64 se] 49))) := (Below.refl _ _).alloc (Nat.le_refl _) _
  go_wp2_with fail
  refine (HS.out _).mono ?_; rintro e w1 ⟨rfl, rfl⟩
  cases k1
  · go_wp2
    go_ret
    exact ⟨ret_bool (by simp [hv.out]), A0.out⟩
  go_wp2_with fail
  refine (HM.out _).mono ?_; rintro e w2 ⟨rfl, hb2⟩
  have hR2 := (HR.out 49).below hb2 (by simp)
  have B2 : Hid (Below w.heap.size w w2) := bel_trans A0.out hb2
  obtain ⟨c0, c1, c2, c3, c4, c5, c6, fz, hlt⟩ := hR2
  have cz := HZ.out _ B2.out
  simp only at c0 c1 c2 c3 c4 c5 c6
  clear hb2 HR HM HS A0 fz c1 c2 c3 c4 c5 c6
  cases k2
  · go_wp2
    go_ret
    exact ⟨ret_bool (by simp [hv.out]), B2.out⟩
  cases k3 : (n.toList == z.toList) with
  | true =>
    have Hv : Hid (V = false) := by show _ = _; rw [hv.out, k3]; rfl
    go_wp2
    go_ret
    exact ⟨ret_bool (by simp [Hv.out]), B2.out⟩
  | false =>
    have Hv : Hid (V = k4) := by show _ = _; rw [hv.out, k3]; simp
    go_wp2_with fail
    refine (HU.out _).mono ?_; rintro e w3 ⟨rfl, hb3⟩
    go_wp2
    go_ret
    exact ⟨ret_bool (by simp [Hv.out]), bel_trans B2.out hb3⟩
theorem notStat_c (r : Rec) (b d : Nat) (c : Cf) (p : CPl) (w : World) (hX : BoxC w b c p) (hr : IsRec r) (hz : c.zo.size ≤ maxLen) (hd : w.cell? ⟨d, 0, none⟩ = some (.func (.func 49) #[] #[.pointer (some ⟨b, 0, none⟩)])) :
    Calls Try.prog 66 #[rv r, .pointer (some ⟨d, 0, none⟩)] w fun e w' => e = .returned (.bool (!statB c.zo r)) ∧ Below w.heap.size w w' := by
  have HS : Hid (∀ w', Below w.heap.size w w' → _) := fun w' hb => statIn_c r b c p w' (hX.below hb) hr hz
  generalize statB c.zo r = V at *
  clear hX hr hz
  obtain ⟨n, ty, ttl, ad, tg, tx, se⟩ := r
  simp only [rv] at HS ⊢
  have A0 : Hid (Below w.heap.size w (w.alloc (.cells #[.string n, .int .i64 ty, .int .i64 ttl, .int .i64 ad, .string tg, .string tx, .int .i64 se] 49))) := (Below.refl _ _).alloc (Nat.le_refl _) _
  have cd := (A0.out.cell (World.block_lt_of_cell? w _ hd)).trans hd
  clear hd
  go_enter Try.func66, Try.ntmps66
  go_wp2_with fail
  refine (HS.out _ A0.out).mono ?_; rintro e w1 ⟨rfl, hb⟩
  go_wp2
  go_ret
  exact ⟨rfl, bel_trans A0.out hb⟩

theorem allR_c (b : Nat) (c : Cf) (p : CPl) (w : World) (hl : c.st.length ≤ 1000000) (h : RecsLie w p.sa c.st) (hr : ∀ r ∈ c.st, IsRec r) (hz : c.zo.size ≤ maxLen) (hX : BoxC w b c p) :
    Calls Try.prog 48 #[.slice p.sa c.st.length p.sc, .func (.func 49) #[] #[.pointer (some ⟨b, 0, none⟩)]] w fun e w' => e = .returned (.bool (c.st.all (statB c.zo))) ∧ Below w.heap.size w w' := by
  obtain ⟨w0, hw0⟩ : ∃ w0, w.alloc (.cells #[.func (.func 49) #[] #[.pointer (some ⟨b, 0, none⟩)]] 70) = w0 := ⟨_, rfl⟩
  have hb : Below w.heap.size w w0 := by rw [← hw0]; exact (Below.refl _ _).alloc (Nat.le_refl _) _
  have gd : w0.cell? ⟨w.heap.size, 0, none⟩ = some (.func (.func 49) #[] #[.pointer (some ⟨b, 0, none⟩)]) := by rw [← hw0]; exact new_cell w _ _ 0 _ rfl
  have hC := holdsR_c p.sa p.sc c.st w0 ⟨w.heap.size, 0, none⟩ (statB c.zo) hl (h.below hb) fun r hrm wr hbr => notStat_c r b w.heap.size c p wr ((hX.below hb).below hbr) (hr r hrm) hz ((hbr.cell (World.block_lt_of_cell? w0 _ gd)).trans gd)
  have HB : Hid (Below w.heap.size w w0) := hb
  have HC : Hid (∀ _ : Unit, _) := fun _ => hC
  generalize c.st.all (statB c.zo) = V at *
  clear h hb gd hC hr hz hX
  subst hw0
  go_enter Try.func48, Try.ntmps48
  go_wp2_with fail
  refine (HC.out ()).mono ?_; rintro e w1 ⟨rfl, hb1⟩
  go_wp2
  go_ret
  exact ⟨ret_bool (by simp), bel_trans HB.out hb1⟩

end Go.Proofs.Ytedbihckdbpebaa
