/-
  Contracts of package conf's all, at lists of numbers and of texts, and of what it asks about each.
-/
import Derived.Test.YtedbihckdbpebaaConfOnce
namespace Go.Proofs.Ytedbihckdbpebaa
open Go.ChangeShapes Go.WideShapes Go.ChangeAt Go.RowKit Go.Pin Go.PlainAid

theorem idxI_none (a : Option Addr) (cap : Nat) (f : Value) (w : World) :
    Calls Try.prog 79 #[.slice a 0 cap, f] w fun e w' => e = .returned (.int .i64 (-1)) ∧ w' = w := by
  go_enter Try.func79, Try.ntmps79
  go_wp2
  go_rounds 1
  go_ret
  exact ⟨rfl, rfl⟩
set_option maxHeartbeats 400000 in
theorem idxI_from (x : Addr) (cap : Nat) (xs : List Int) (w : World) (cp : Addr) (q : Int → Bool) (hl : xs.length ≤ 1000000) (h : ∀ j n, xs[j]? = some n → w.cell? (x.add j) = some (.int .i64 n))
    (hf : ∀ c ∈ xs, ∀ wr, Below w.heap.size w wr → Calls Try.prog 73 #[.int .i64 c, .pointer (some cp)] wr fun e w' => e = .returned (.bool (!q c)) ∧ Below wr.heap.size wr w') :
    Calls Try.prog 79 #[.slice (some x) xs.length cap, .func (.func 73) #[] #[.pointer (some cp)]] w fun e w' => (∃ i : Int, e = .returned (.int .i64 i) ∧ decide (0 ≤ i) = !xs.all q) ∧ Below w.heap.size w w' := by
  have H : Hid (∀ j, (hj : j < xs.length) → (let n := xs[j]; w.cell? (x.add j) = some (.int .i64 n)) ∧ (let c := xs[j]; ∀ wr, Below w.heap.size w wr → Calls Try.prog 73 #[.int .i64 c, .pointer (some cp)] wr fun e w' => e = .returned (.bool (!q c)) ∧ Below wr.heap.size wr w') ∧ (q xs[j] = false → xs.all q = false)) := fun j hj => ⟨h j _ (List.getElem?_eq_getElem hj), hf _ (List.getElem_mem hj), all_not (List.getElem?_eq_getElem hj)⟩
  have Hyes : Hid ((∀ j, (hj : j < xs.length) → q xs[j] = true) → xs.all q = true) := fun hh => all_of_get fun j y hy => by
    obtain ⟨hj, rfl⟩ := List.getElem?_eq_some_iff.1 hy
    exact hh j hj
  generalize xs.all q = V at *
  clear h hf
  go_enter Try.func79, Try.ntmps79
  go_wp2
  go_loopw [8] (fun i wr => ∃ j : Nat, j ≤ xs.length ∧ i = .int .i64 j ∧ Hid (∀ k, (hk : k < xs.length) → k < j → q xs[k] = true) ∧ Below w.heap.size w wr) (fun i _ => xs.length - (intOf i).toNat)
  case atStart => exact ⟨0, Nat.zero_le _, rfl, fun k hk hk0 => by omega, Below.refl _ _⟩
  case round =>
    obtain ⟨j, hj, rfl, hall, B⟩ := hrel
    by_cases hlt : j < xs.length
    · obtain ⟨hc, hd, hno⟩ := H.out j hlt
      have hcall := hd wr B
      have HC : Hid (∀ _ : Unit, _) := fun _ => hcall
      have HN : Hid (_) := hno
      have hall' : Hid (q xs[j] = true → ∀ k, (hk : k < xs.length) → k < j + 1 → q xs[k] = true) := fun hk k hkl hk1 => by
        by_cases e : k = j
        · subst e; exact hk
        · exact hall.out k hkl (by omega)
      clear hall hno hd hcall
      generalize xs[j] = c at *
      have hc := (B.cell (World.block_lt_of_cell? w _ hc)).trans hc
      cases hk : q c with
      | false =>
        rw [hk] at HC
        have HV : Hid (V = false) := HN.out hk
        clear hk hall' HN
        go_wp2_with fail
        refine (HC.out ()).mono ?_; rintro e w1 ⟨rfl, hb1⟩
        replace B := B.trans (hb1.mono B.size)
        clear hc hb1
        go_wp2
        go_ret
        exact ⟨⟨j, rfl, by rw [HV.out]; simp⟩, B⟩
      | true =>
        rw [hk] at HC
        have Hall : Hid (∀ k, (hk : k < xs.length) → k < j + 1 → q xs[k] = true) := hall'.out hk
        clear hk hall' HN
        go_wp2_with fail
        refine (HC.out ()).mono ?_; rintro e w1 ⟨rfl, hb1⟩
        replace B := B.trans (hb1.mono B.size)
        clear hc hb1
        go_wp2
        go_roundw
        case rel => exact ⟨j + 1, by omega, by go_num, Hall, B⟩
        case measure => simp [intOf]; omega
    · obtain rfl : j = xs.length := by omega
      have HV : Hid (V = true) := Hyes.out fun k hk => hall.out k hk hk
      go_wp2
      go_ret
      exact ⟨⟨-1, rfl, by rw [HV.out]; rfl⟩, B⟩
theorem holdsI_c (a : Option Addr) (cap : Nat) (xs : List Int) (w : World) (cp : Addr) (q : Int → Bool) (hl : xs.length ≤ 1000000) (h : xs = [] ∨ ∃ x, a = some x ∧ ∀ j n, xs[j]? = some n → w.cell? (x.add j) = some (.int .i64 n))
    (hf : ∀ c ∈ xs, ∀ wr, Below w.heap.size w wr → Calls Try.prog 73 #[.int .i64 c, .pointer (some cp)] wr fun e w' => e = .returned (.bool (!q c)) ∧ Below wr.heap.size wr w') :
    Calls Try.prog 72 #[.slice a xs.length cap, .func (.func 73) #[] #[.pointer (some cp)]] w fun e w' => e = .returned (.bool (!xs.all q)) ∧ Below w.heap.size w w' := by
  have HC : Hid (Calls Try.prog 79 #[.slice a xs.length cap, .func (.func 73) #[] #[.pointer (some cp)]] w fun e w' => (∃ i : Int, e = .returned (.int .i64 i) ∧ decide (0 ≤ i) = !xs.all q) ∧ Below w.heap.size w w') := by
    rcases h with rfl | ⟨x, rfl, h⟩
    · exact (idxI_none a cap _ w).mono fun e w' ⟨h1, h2⟩ => ⟨⟨-1, h1, rfl⟩, by rw [h2]; exact Below.refl _ _⟩
    · exact idxI_from x cap xs w cp q hl h hf
  generalize (!xs.all q) = V at *
  clear h hf
  go_enter Try.func72, Try.ntmps72
  go_wp2_with fail
  refine HC.out.mono ?_; rintro e w1 ⟨⟨i, rfl, hi⟩, hb1⟩
  have Hi : Hid (decide (0 ≤ i) = V) := hi
  clear hi
  go_wp2
  go_ret
  exact ⟨ret_bool Hi.out, hb1⟩

theorem hostIn_c (x : Int) (b : Nat) (u v : Int) (w : World) (h0 : w.cell? ⟨b, 0, none⟩ = some (.int .i64 u)) (h1 : w.cell? ⟨b, 1, none⟩ = some (.int .i64 v)) :
    Calls Try.prog 59 #[.int .i64 x, .pointer (some ⟨b, 0, none⟩)] w fun e w' => e = .returned (.bool (betw u x v)) ∧ Below w.heap.size w w' := by
  have HW : Hid (∀ w, _) := fun w => cWithin_c u x v w
  go_enter Try.func59, Try.ntmps59
  go_wp2_with fail
  refine (HW.out _).mono ?_; rintro e w1 ⟨rfl, rfl⟩
  go_wp2
  go_ret
  exact ⟨rfl, Below.refl _ _⟩
theorem notIn_c (x : Int) (b d : Nat) (u v : Int) (w : World) (h0 : w.cell? ⟨b, 0, none⟩ = some (.int .i64 u)) (h1 : w.cell? ⟨b, 1, none⟩ = some (.int .i64 v)) (hd : w.cell? ⟨d, 0, none⟩ = some (.func (.func 59) #[] #[.pointer (some ⟨b, 0, none⟩)])) :
    Calls Try.prog 73 #[.int .i64 x, .pointer (some ⟨d, 0, none⟩)] w fun e w' => e = .returned (.bool (!betw u x v)) ∧ Below w.heap.size w w' := by
  have hw := hostIn_c x b u v w h0 h1
  have HW : Hid (∀ _ : Unit, _) := fun _ => hw
  clear h0 h1 hw
  go_enter Try.func73, Try.ntmps73
  go_wp2_with fail
  refine (HW.out ()).mono ?_; rintro e w1 ⟨rfl, hb⟩
  go_wp2
  go_ret
  exact ⟨rfl, hb⟩

theorem allI_c (a : Option Addr) (cap : Nat) (xs : List Int) (b : Nat) (u v : Int) (w : World) (hl : xs.length ≤ 1000000) (h : NumsLie w a xs) (h0 : w.cell? ⟨b, 0, none⟩ = some (.int .i64 u)) (h1 : w.cell? ⟨b, 1, none⟩ = some (.int .i64 v)) :
    Calls Try.prog 58 #[.slice a xs.length cap, .func (.func 59) #[] #[.pointer (some ⟨b, 0, none⟩)]] w fun e w' => e = .returned (.bool (xs.all fun x => betw u x v)) ∧ Below w.heap.size w w' := by
  obtain ⟨w0, hw0⟩ : ∃ w0, w.alloc (.cells #[.func (.func 59) #[] #[.pointer (some ⟨b, 0, none⟩)]] 69) = w0 := ⟨_, rfl⟩
  have hb : Below w.heap.size w w0 := by rw [← hw0]; exact (Below.refl _ _).alloc (Nat.le_refl _) _
  have g0 := (hb.cell (World.block_lt_of_cell? w _ h0)).trans h0
  have g1 := (hb.cell (World.block_lt_of_cell? w _ h1)).trans h1
  have gd : w0.cell? ⟨w.heap.size, 0, none⟩ = some (.func (.func 59) #[] #[.pointer (some ⟨b, 0, none⟩)]) := by rw [← hw0]; exact new_cell w _ _ 0 _ rfl
  have hC := holdsI_c a cap xs w0 ⟨w.heap.size, 0, none⟩ (fun x => betw u x v) hl (h.below hb) fun c _ wr hbr => notIn_c c b w.heap.size u v wr ((hbr.cell (World.block_lt_of_cell? w0 _ g0)).trans g0) ((hbr.cell (World.block_lt_of_cell? w0 _ g1)).trans g1) ((hbr.cell (World.block_lt_of_cell? w0 _ gd)).trans gd)
  have HB : Hid (Below w.heap.size w w0) := hb
  have HC : Hid (∀ _ : Unit, _) := fun _ => hC
  generalize (xs.all fun x => betw u x v) = V at *
  clear h h0 h1 hb g0 g1 gd hC
  subst hw0
  go_enter Try.func58, Try.ntmps58
  go_wp2_with fail
  refine (HC.out ()).mono ?_; rintro e w1 ⟨rfl, hb1⟩
  go_wp2
  go_ret
  exact ⟨ret_bool (by simp), bel_trans HB.out hb1⟩

theorem idxS_none (a : Option Addr) (cap : Nat) (f : Value) (w : World) :
    Calls Try.prog 80 #[.slice a 0 cap, f] w fun e w' => e = .returned (.int .i64 (-1)) ∧ w' = w := by
  go_enter Try.func80, Try.ntmps80
  go_wp2
  go_rounds 1
  go_ret
  exact ⟨rfl, rfl⟩
set_option maxHeartbeats 400000 in
theorem idxS_from (x : Addr) (cap : Nat) (xs : List (List UInt8)) (w : World) (cp : Addr) (q : (List UInt8) → Bool) (hl : xs.length ≤ 1000000) (h : ∀ j n, xs[j]? = some n → w.cell? (x.add j) = some (.string (mk n)))
    (hf : ∀ c ∈ xs, ∀ wr, Below w.heap.size w wr → Calls Try.prog 75 #[.string (mk c), .pointer (some cp)] wr fun e w' => e = .returned (.bool (!q c)) ∧ Below wr.heap.size wr w') :
    Calls Try.prog 80 #[.slice (some x) xs.length cap, .func (.func 75) #[] #[.pointer (some cp)]] w fun e w' => (∃ i : Int, e = .returned (.int .i64 i) ∧ decide (0 ≤ i) = !xs.all q) ∧ Below w.heap.size w w' := by
  have H : Hid (∀ j, (hj : j < xs.length) → (let n := xs[j]; w.cell? (x.add j) = some (.string (mk n))) ∧ (let c := xs[j]; ∀ wr, Below w.heap.size w wr → Calls Try.prog 75 #[.string (mk c), .pointer (some cp)] wr fun e w' => e = .returned (.bool (!q c)) ∧ Below wr.heap.size wr w') ∧ (q xs[j] = false → xs.all q = false)) := fun j hj => ⟨h j _ (List.getElem?_eq_getElem hj), hf _ (List.getElem_mem hj), all_not (List.getElem?_eq_getElem hj)⟩
  have Hyes : Hid ((∀ j, (hj : j < xs.length) → q xs[j] = true) → xs.all q = true) := fun hh => all_of_get fun j y hy => by
    obtain ⟨hj, rfl⟩ := List.getElem?_eq_some_iff.1 hy
    exact hh j hj
  generalize xs.all q = V at *
  clear h hf
  go_enter Try.func80, Try.ntmps80
  go_wp2
  go_loopw [8] (fun i wr => ∃ j : Nat, j ≤ xs.length ∧ i = .int .i64 j ∧ Hid (∀ k, (hk : k < xs.length) → k < j → q xs[k] = true) ∧ Below w.heap.size w wr) (fun i _ => xs.length - (intOf i).toNat)
  case atStart => exact ⟨0, Nat.zero_le _, rfl, fun k hk hk0 => by omega, Below.refl _ _⟩
  case round =>
    obtain ⟨j, hj, rfl, hall, B⟩ := hrel
    by_cases hlt : j < xs.length
    · obtain ⟨hc, hd, hno⟩ := H.out j hlt
      have hcall := hd wr B
      have HC : Hid (∀ _ : Unit, _) := fun _ => hcall
      have HN : Hid (_) := hno
      have hall' : Hid (q xs[j] = true → ∀ k, (hk : k < xs.length) → k < j + 1 → q xs[k] = true) := fun hk k hkl hk1 => by
        by_cases e : k = j
        · subst e; exact hk
        · exact hall.out k hkl (by omega)
      clear hall hno hd hcall
      generalize xs[j] = c at *
      have hc := (B.cell (World.block_lt_of_cell? w _ hc)).trans hc
      cases hk : q c with
      | false =>
        rw [hk] at HC
        have HV : Hid (V = false) := HN.out hk
        clear hk hall' HN
        go_wp2_with fail
        refine (HC.out ()).mono ?_; rintro e w1 ⟨rfl, hb1⟩
        replace B := B.trans (hb1.mono B.size)
        clear hc hb1
        go_wp2
        go_ret
        exact ⟨⟨j, rfl, by rw [HV.out]; simp⟩, B⟩
      | true =>
        rw [hk] at HC
        have Hall : Hid (∀ k, (hk : k < xs.length) → k < j + 1 → q xs[k] = true) := hall'.out hk
        clear hk hall' HN
        go_wp2_with fail
        refine (HC.out ()).mono ?_; rintro e w1 ⟨rfl, hb1⟩
        replace B := B.trans (hb1.mono B.size)
        clear hc hb1
        go_wp2
        go_roundw
        case rel => exact ⟨j + 1, by omega, by go_num, Hall, B⟩
        case measure => simp [intOf]; omega
    · obtain rfl : j = xs.length := by omega
      have HV : Hid (V = true) := Hyes.out fun k hk => hall.out k hk hk
      go_wp2
      go_ret
      exact ⟨⟨-1, rfl, by rw [HV.out]; rfl⟩, B⟩
theorem holdsS_c (a : Option Addr) (cap : Nat) (xs : List (List UInt8)) (w : World) (cp : Addr) (q : (List UInt8) → Bool) (hl : xs.length ≤ 1000000) (h : xs = [] ∨ ∃ x, a = some x ∧ ∀ j n, xs[j]? = some n → w.cell? (x.add j) = some (.string (mk n)))
    (hf : ∀ c ∈ xs, ∀ wr, Below w.heap.size w wr → Calls Try.prog 75 #[.string (mk c), .pointer (some cp)] wr fun e w' => e = .returned (.bool (!q c)) ∧ Below wr.heap.size wr w') :
    Calls Try.prog 74 #[.slice a xs.length cap, .func (.func 75) #[] #[.pointer (some cp)]] w fun e w' => e = .returned (.bool (!xs.all q)) ∧ Below w.heap.size w w' := by
  have HC : Hid (Calls Try.prog 80 #[.slice a xs.length cap, .func (.func 75) #[] #[.pointer (some cp)]] w fun e w' => (∃ i : Int, e = .returned (.int .i64 i) ∧ decide (0 ≤ i) = !xs.all q) ∧ Below w.heap.size w w') := by
    rcases h with rfl | ⟨x, rfl, h⟩
    · exact (idxS_none a cap _ w).mono fun e w' ⟨h1, h2⟩ => ⟨⟨-1, h1, rfl⟩, by rw [h2]; exact Below.refl _ _⟩
    · exact idxS_from x cap xs w cp q hl h hf
  generalize (!xs.all q) = V at *
  clear h hf
  go_enter Try.func74, Try.ntmps74
  go_wp2_with fail
  refine HC.out.mono ?_; rintro e w1 ⟨⟨i, rfl, hi⟩, hb1⟩
  have Hi : Hid (decide (0 ≤ i) = V) := hi
  clear hi
  go_wp2
  go_ret
  exact ⟨ret_bool Hi.out, hb1⟩

theorem clIn_c (l : List UInt8) (w : World) : Calls Try.prog 62 #[.string (mk l)] w fun e w' => e = .returned (.bool (clB l)) ∧ w' = w := by
  have hv : clB l = betw 1 (mk l).size 16 := by rw [size_mk]; rfl
  rw [hv]
  have HW : Hid (∀ w, _) := fun w => cWithin_c 1 (mk l).size 16 w
  clear hv
  go_enter Try.func62, Try.ntmps62
  go_wp2_with fail
  refine (HW.out _).mono ?_; rintro e w1 ⟨rfl, rfl⟩
  go_wp2
  go_ret
  exact ⟨rfl, rfl⟩
theorem notCl_c (l : List UInt8) (d : Nat) (w : World) (hd : w.cell? ⟨d, 0, none⟩ = some (.func (.func 62) #[] #[])) :
    Calls Try.prog 75 #[.string (mk l), .pointer (some ⟨d, 0, none⟩)] w fun e w' => e = .returned (.bool (!clB l)) ∧ Below w.heap.size w w' := by
  have HW : Hid (∀ w, _) := fun w => clIn_c l w
  go_enter Try.func75, Try.ntmps75
  go_wp2_with fail
  refine (HW.out _).mono ?_; rintro e w1 ⟨rfl, rfl⟩
  go_wp2
  go_ret
  exact ⟨rfl, Below.refl _ _⟩

theorem allS_c (a : Option Addr) (cap : Nat) (xs : List (List UInt8)) (w : World) (hl : xs.length ≤ 1000000) (h : StrsLie w a xs) :
    Calls Try.prog 61 #[.slice a xs.length cap, .func (.func 62) #[] #[]] w fun e w' => e = .returned (.bool (xs.all clB)) ∧ Below w.heap.size w w' := by
  obtain ⟨w0, hw0⟩ : ∃ w0, w.alloc (.cells #[.func (.func 62) #[] #[]] 57) = w0 := ⟨_, rfl⟩
  have hb : Below w.heap.size w w0 := by rw [← hw0]; exact (Below.refl _ _).alloc (Nat.le_refl _) _
  have gd : w0.cell? ⟨w.heap.size, 0, none⟩ = some (.func (.func 62) #[] #[]) := by rw [← hw0]; exact new_cell w _ _ 0 _ rfl
  have hC := holdsS_c a cap xs w0 ⟨w.heap.size, 0, none⟩ clB hl (h.below hb) fun c _ wr hbr => notCl_c c w.heap.size wr ((hbr.cell (World.block_lt_of_cell? w0 _ gd)).trans gd)
  have HB : Hid (Below w.heap.size w w0) := hb
  have HC : Hid (∀ _ : Unit, _) := fun _ => hC
  generalize xs.all clB = V at *
  clear h hb gd hC
  subst hw0
  go_enter Try.func61, Try.ntmps61
  go_wp2_with fail
  refine (HC.out ()).mono ?_; rintro e w1 ⟨rfl, hb1⟩
  go_wp2
  go_ret
  exact ⟨ret_bool (by simp), bel_trans HB.out hb1⟩

end Go.Proofs.Ytedbihckdbpebaa
