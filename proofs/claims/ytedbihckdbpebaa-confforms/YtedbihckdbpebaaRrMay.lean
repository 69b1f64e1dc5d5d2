/-
  Contracts of package rr's May and what it asks, at every record.
-/
import Derived.Test.YtedbihckdbpebaaRrPure
import Derived.Test.YtedbihckdbpebaaBWire
import Derived.Test.YtedbihckdbpebaaBName
namespace Go.Proofs.Ytedbihckdbpebaa
open Go.ChangeShapes Go.WideShapes Go.ChangeAt Go.RowKit Go.Pin Go.PlainAid

theorem upTo_c (x m : Int) (w : World) : Calls Try.prog 69 #[.int .i64 x, .int .i64 m] w fun e w' => e = .returned (.bool (upB x m)) ∧ w' = w := by
  by_cases h0 : 0 ≤ x
  · have h1 : decide (0 ≤ x) = true := by simpa using h0
    have h2 : upB x m = decide (x ≤ m) := by simp [upB, h0]
    rw [h2]
    go_enter Try.func69, Try.ntmps69
    go_wp2
    go_ret
    exact ⟨rfl, rfl⟩
  · have h1 : decide (0 ≤ x) = false := by simpa using h0
    have h2 : upB x m = false := by simp [upB, h0]
    rw [h2]
    go_enter Try.func69, Try.ntmps69
    go_wp2
    go_ret
    exact ⟨rfl, rfl⟩

theorem what_1 (n : ByteArray) (ttl ad : Int) (tg tx : ByteArray) (se : Int) (w : World) : Calls Try.prog 67 #[rv ⟨n, 1, ttl, ad, tg, tx, se⟩] w fun e w' => e = .returned (.tuple #[rv ⟨n, 1, ttl, ad, ⟨#[]⟩, ⟨#[]⟩, 0⟩, .bool true]) ∧ Below w.heap.size w w' := by
  simp only [rv]
  go_enter Try.func67, Try.ntmps67
  go_wp2
  all_goals refine bodyPost_ret (v := .tuple #[rv ⟨n, 1, ttl, ad, ⟨#[]⟩, ⟨#[]⟩, 0⟩, .bool true]) (by simp [rv, results, Try.results67, go_sem]) rfl ⟨rfl, ?_⟩
  all_goals first | exact (((Below.refl _ _).alloc (Nat.le_refl _) _).alloc (by simp) _).alloc (by simp; omega) _ | exact ((((Below.refl _ _).alloc (Nat.le_refl _) _).alloc (by simp) _).alloc (by simp; omega) _).drew
theorem what_2 (n : ByteArray) (ttl ad : Int) (tg tx : ByteArray) (se : Int) (w : World) : Calls Try.prog 67 #[rv ⟨n, 2, ttl, ad, tg, tx, se⟩] w fun e w' => e = .returned (.tuple #[rv ⟨n, 2, ttl, 0, tg, ⟨#[]⟩, 0⟩, .bool true]) ∧ Below w.heap.size w w' := by
  simp only [rv]
  go_enter Try.func67, Try.ntmps67
  go_wp2
  all_goals refine bodyPost_ret (v := .tuple #[rv ⟨n, 2, ttl, 0, tg, ⟨#[]⟩, 0⟩, .bool true]) (by simp [rv, results, Try.results67, go_sem]) rfl ⟨rfl, ?_⟩
  all_goals first | exact (((Below.refl _ _).alloc (Nat.le_refl _) _).alloc (by simp) _).alloc (by simp; omega) _ | exact ((((Below.refl _ _).alloc (Nat.le_refl _) _).alloc (by simp) _).alloc (by simp; omega) _).drew
theorem what_5 (n : ByteArray) (ttl ad : Int) (tg tx : ByteArray) (se : Int) (w : World) : Calls Try.prog 67 #[rv ⟨n, 5, ttl, ad, tg, tx, se⟩] w fun e w' => e = .returned (.tuple #[rv ⟨n, 5, ttl, 0, tg, ⟨#[]⟩, 0⟩, .bool true]) ∧ Below w.heap.size w w' := by
  simp only [rv]
  go_enter Try.func67, Try.ntmps67
  go_wp2
  all_goals refine bodyPost_ret (v := .tuple #[rv ⟨n, 5, ttl, 0, tg, ⟨#[]⟩, 0⟩, .bool true]) (by simp [rv, results, Try.results67, go_sem]) rfl ⟨rfl, ?_⟩
  all_goals first | exact (((Below.refl _ _).alloc (Nat.le_refl _) _).alloc (by simp) _).alloc (by simp; omega) _ | exact ((((Below.refl _ _).alloc (Nat.le_refl _) _).alloc (by simp) _).alloc (by simp; omega) _).drew
theorem what_12 (n : ByteArray) (ttl ad : Int) (tg tx : ByteArray) (se : Int) (w : World) : Calls Try.prog 67 #[rv ⟨n, 12, ttl, ad, tg, tx, se⟩] w fun e w' => e = .returned (.tuple #[rv ⟨n, 12, ttl, 0, tg, ⟨#[]⟩, 0⟩, .bool true]) ∧ Below w.heap.size w w' := by
  simp only [rv]
  go_enter Try.func67, Try.ntmps67
  go_wp2
  all_goals refine bodyPost_ret (v := .tuple #[rv ⟨n, 12, ttl, 0, tg, ⟨#[]⟩, 0⟩, .bool true]) (by simp [rv, results, Try.results67, go_sem]) rfl ⟨rfl, ?_⟩
  all_goals first | exact (((Below.refl _ _).alloc (Nat.le_refl _) _).alloc (by simp) _).alloc (by simp; omega) _ | exact ((((Below.refl _ _).alloc (Nat.le_refl _) _).alloc (by simp) _).alloc (by simp; omega) _).drew
theorem what_6 (n : ByteArray) (ttl ad : Int) (tg tx : ByteArray) (se : Int) (w : World) : Calls Try.prog 67 #[rv ⟨n, 6, ttl, ad, tg, tx, se⟩] w fun e w' => e = .returned (.tuple #[rv ⟨n, 6, ttl, 0, tg, ⟨#[]⟩, se⟩, .bool true]) ∧ Below w.heap.size w w' := by
  simp only [rv]
  go_enter Try.func67, Try.ntmps67
  go_wp2
  go_region
  all_goals go_wp2
  all_goals refine bodyPost_ret (v := .tuple #[rv ⟨n, 6, ttl, 0, tg, ⟨#[]⟩, se⟩, .bool true]) (by simp [rv, results, Try.results67, go_sem]) rfl ⟨rfl, ?_⟩
  all_goals first | exact (((Below.refl _ _).alloc (Nat.le_refl _) _).alloc (by simp) _).alloc (by simp; omega) _ | exact ((((Below.refl _ _).alloc (Nat.le_refl _) _).alloc (by simp) _).alloc (by simp; omega) _).drew
theorem what_16 (n : ByteArray) (ttl ad : Int) (tg tx : ByteArray) (se : Int) (w : World) : Calls Try.prog 67 #[rv ⟨n, 16, ttl, ad, tg, tx, se⟩] w fun e w' => e = .returned (.tuple #[rv ⟨n, 16, ttl, 0, ⟨#[]⟩, tx, 0⟩, .bool true]) ∧ Below w.heap.size w w' := by
  simp only [rv]
  go_enter Try.func67, Try.ntmps67
  go_wp2
  all_goals refine bodyPost_ret (v := .tuple #[rv ⟨n, 16, ttl, 0, ⟨#[]⟩, tx, 0⟩, .bool true]) (by simp [rv, results, Try.results67, go_sem]) rfl ⟨rfl, ?_⟩
  all_goals first | exact (((Below.refl _ _).alloc (Nat.le_refl _) _).alloc (by simp) _).alloc (by simp; omega) _ | exact ((((Below.refl _ _).alloc (Nat.le_refl _) _).alloc (by simp) _).alloc (by simp; omega) _).drew
theorem what_49 (n : ByteArray) (ttl ad : Int) (tg tx : ByteArray) (se : Int) (w : World) : Calls Try.prog 67 #[rv ⟨n, 49, ttl, ad, tg, tx, se⟩] w fun e w' => e = .returned (.tuple #[rv ⟨n, 49, ttl, 0, ⟨#[]⟩, tx, 0⟩, .bool true]) ∧ Below w.heap.size w w' := by
  simp only [rv]
  go_enter Try.func67, Try.ntmps67
  go_wp2
  all_goals refine bodyPost_ret (v := .tuple #[rv ⟨n, 49, ttl, 0, ⟨#[]⟩, tx, 0⟩, .bool true]) (by simp [rv, results, Try.results67, go_sem]) rfl ⟨rfl, ?_⟩
  all_goals first | exact (((Below.refl _ _).alloc (Nat.le_refl _) _).alloc (by simp) _).alloc (by simp; omega) _ | exact ((((Below.refl _ _).alloc (Nat.le_refl _) _).alloc (by simp) _).alloc (by simp; omega) _).drew
theorem what_no (r : Rec) (w : World) (h : typeB r.ty = false) : Calls Try.prog 67 #[rv r] w fun e w' => e = .returned (.tuple #[rv zeroR, .bool false]) ∧ Below w.heap.size w w' := by
  obtain ⟨n, ty, ttl, ad, tg, tx, se⟩ := r
  simp only [typeB, isN, isT, Bool.or_eq_false_iff, decide_eq_false_iff_not, not_or] at h
  obtain ⟨⟨⟨h1, h2, h5, h12⟩, h6⟩, h16, h49⟩ := h
  simp only [rv]
  go_enter Try.func67, Try.ntmps67
  go_wp2
  refine bodyPost_ret (v := .tuple #[rv zeroR, .bool false]) (by simp [rv, zeroR, results, Try.results67, go_sem]) rfl ⟨rfl, ?_⟩
  exact (((Below.refl _ _).alloc (Nat.le_refl _) _).alloc (by simp) _).alloc (by simp; omega) _
theorem what_c (r : Rec) (w : World) : Calls Try.prog 67 #[rv r] w fun e w' => e = .returned (.tuple #[rv (namedR r), .bool (typeB r.ty)]) ∧ Below w.heap.size w w' := by
  cases h : typeB r.ty with
  | false =>
    have : namedR r = zeroR := by
      simp only [typeB, Bool.or_eq_false_iff, decide_eq_false_iff_not] at h
      simp [namedR, h.1.1.1, h.1.1.2, h.1.2, h.2]
    rw [this]
    exact what_no r w h
  | true =>
    obtain ⟨n, ty, ttl, ad, tg, tx, se⟩ := r
    simp only [typeB, isN, isT, Bool.or_eq_true, decide_eq_true_eq] at h
    rcases h with ((rfl | rfl | rfl | rfl) | rfl) | rfl | rfl
    · exact what_1 n ttl ad tg tx se w
    · exact what_2 n ttl ad tg tx se w
    · exact what_5 n ttl ad tg tx se w
    · exact what_12 n ttl ad tg tx se w
    · exact what_6 n ttl ad tg tx se w
    · exact what_16 n ttl ad tg tx se w
    · exact what_49 n ttl ad tg tx se w

/-- Block b holds the record r. -/
structure RecAt (w : World) (b : Nat) (r : Rec) : Prop where
  c0 : w.cell? ⟨b, 0, none⟩ = some (.string r.n)
  c1 : w.cell? ⟨b, 1, none⟩ = some (.int .i64 r.ty)
  c2 : w.cell? ⟨b, 2, none⟩ = some (.int .i64 r.ttl)
  c3 : w.cell? ⟨b, 3, none⟩ = some (.int .i64 r.ad)
  c4 : w.cell? ⟨b, 4, none⟩ = some (.string r.tg)
  c5 : w.cell? ⟨b, 5, none⟩ = some (.string r.tx)
  c6 : w.cell? ⟨b, 6, none⟩ = some (.int .i64 r.se)
  fz : ∀ j, w.frozen? ⟨b, j, none⟩ = false
  lt : b < w.heap.size
theorem RecAt.keep {w w' : World} {b : Nat} {r : Rec} (h : RecAt w b r) (hb : w'.heap[b]? = w.heap[b]?) (hs : w.heap.size ≤ w'.heap.size) : RecAt w' b r := by
  have hc : ∀ j, w'.cell? ⟨b, j, none⟩ = w.cell? ⟨b, j, none⟩ := fun j => World.cell?_of_block hb
  have hf : ∀ j, w'.frozen? ⟨b, j, none⟩ = w.frozen? ⟨b, j, none⟩ := fun j => World.frozen?_of_block hb
  exact ⟨(hc 0).trans h.c0, (hc 1).trans h.c1, (hc 2).trans h.c2, (hc 3).trans h.c3, (hc 4).trans h.c4, (hc 5).trans h.c5, (hc 6).trans h.c6, fun j => (hf j).trans (h.fz j), Nat.lt_of_lt_of_le h.lt hs⟩
theorem RecAt.below {w w' : World} {b : Nat} {r : Rec} (h : RecAt w b r) {n : Nat} (hb : Below n w w') (hn : b < n) : RecAt w' b r := h.keep (hb.block b hn) hb.size
theorem RecAt.new (w : World) (r : Rec) (t : TypeId) : RecAt (w.alloc (.cells #[.string r.n, .int .i64 r.ty, .int .i64 r.ttl, .int .i64 r.ad, .string r.tg, .string r.tx, .int .i64 r.se] t)) w.heap.size r :=
  ⟨new_cell _ _ _ _ _ rfl, new_cell _ _ _ _ _ rfl, new_cell _ _ _ _ _ rfl, new_cell _ _ _ _ _ rfl, new_cell _ _ _ _ _ rfl, new_cell _ _ _ _ _ rfl, new_cell _ _ _ _ _ rfl, fun _ => new_frozen _ _ _ _, by simp⟩

theorem Try.rrFields : Try.prog.underlying 49 = some (.struct (Try.prog.fieldsOf 49)) := by kernel_rfl
theorem Try.rrHeld : Try.prog.stoodInHeld 49 = false := by kernel_rfl
theorem eql_rec (a b : Rec) (w : World) : (binOp .eql 49 (rv a) (rv b)).run Try.prog w = .ok (.bool (sameR a b)) w := by
  obtain ⟨a1, a2, a3, a4, a5, a6, a7⟩ := a
  obtain ⟨b1, b2, b3, b4, b5, b6, b7⟩ := b
  simp only [rv]
  rw [run_eql_struct, run_equalIn_agg _ _ _ _ _ Try.rrFields Try.rrHeld]
  simp [go_sem, Try.underlying49, sameR]
  repeat' split
  all_goals simp_all

theorem rrMay_c (r : Rec) (w : World) (hn : r.n.size ≤ maxLen) (ht : r.tg.size ≤ maxLen) : Calls Try.prog 51 #[rv r] w fun e w' => e = .returned (.bool (mayR r)) ∧ Below w.heap.size w w' := by
  have HW : Hid (∀ w, _) := fun w => what_c r w
  have HN : Hid (∀ w, _) := fun w => may_c r.n w hn
  have HT : Hid (∀ w, _) := fun w => may_c r.tg w ht
  have hq : Hid (∀ w, _) := fun w => eql_rec r (namedR r) w
  have hm : mayR r = (typeB r.ty && sameR r (namedR r) && mayL (bs r.n) && upB r.ttl 1048576 && upB r.ad 4294967295 && mayL (bs r.tg) && upB r.se 4294967295 && decide (r.tx.size ≤ 64)) := rfl
  generalize mayR r = V at *
  generalize namedR r = q at *
  generalize typeB r.ty = k at *
  generalize sameR r q = sm at *
  generalize mayL (bs r.n) = m1 at *
  generalize mayL (bs r.tg) = m2 at *
  have U1 : Hid (∀ w, _) := fun w => upTo_c r.ttl 1048576 w
  have U2 : Hid (∀ w, _) := fun w => upTo_c r.ad 4294967295 w
  have U3 : Hid (∀ w, _) := fun w => upTo_c r.se 4294967295 w
  generalize upB r.ttl 1048576 = u1 at *
  generalize upB r.ad 4294967295 = u2 at *
  generalize upB r.se 4294967295 = u3 at *
  have HR : Hid (∀ t, _) := fun t => RecAt.new w r t
  obtain ⟨n, ty, ttl, ad, tg, tx, se⟩ := r
  obtain ⟨n', ty', ttl', ad', tg', tx', se'⟩ := q
  have hq' := hq.out
  clear hn ht hq
  simp only [rv] at HW hq' HR hm ⊢
  go_enter Try.func51, Try.ntmps51
  go_wp2_with fail
  refine (HW.out _).mono ?_; rintro e w1 ⟨rfl, hb1⟩
  have hR := (HR.out 49).below hb1 (by simp)
  have B1 : Hid (Below w.heap.size w w1) := bel_trans ((Below.refl _ _).alloc (Nat.le_refl _) _) hb1
  have hR1 : Hid (_) := hR
  obtain ⟨c0, c1, c2, c3, c4, c5, c6, fz, hlt⟩ := hR
  simp only at c0 c1 c2 c3 c4 c5 c6
  clear hb1 HR HW fz
  cases k
  · go_wp2
    go_ret
    exact ⟨ret_bool (by simp [hm]), B1.out.alloc (B1.out.size) _⟩
  cases sm
  · go_wp2
    go_ret
    exact ⟨ret_bool (by simp [hm]), B1.out.alloc (B1.out.size) _⟩
  go_wp2_with fail
  refine (HN.out _).mono ?_; rintro e w2 ⟨rfl, hb2⟩
  have B2 : Hid (Below w.heap.size w w2) := bel_trans (B1.out.alloc (B1.out.size) _) (hb2.mono (by have := B1.out.size; simp <;> omega))
  have hR2 : Hid (_) := hR1.out.below (bel_trans ((Below.refl _ _).alloc (Nat.le_refl _) _) hb2) hlt
  clear c0 c1 c2 c3 c4 c5 c6 hb2 hR1 B1
  obtain ⟨c0, c1, c2, c3, c4, c5, c6, fz, hlt2⟩ := hR2.out
  simp only at c0 c1 c2 c3 c4 c5 c6
  clear fz
  cases m1
  · go_wp2
    go_ret
    exact ⟨ret_bool (by simp [hm]), B2.out⟩
  go_wp2_with fail
  refine (U1.out _).mono ?_; rintro e w3 ⟨rfl, rfl⟩
  cases u1
  · go_wp2
    go_ret
    exact ⟨ret_bool (by simp [hm]), B2.out⟩
  go_wp2_with fail
  refine (U2.out _).mono ?_; rintro e w3 ⟨rfl, rfl⟩
  cases u2
  · go_wp2
    go_ret
    exact ⟨ret_bool (by simp [hm]), B2.out⟩
  go_wp2_with fail
  refine (HT.out _).mono ?_; rintro e w4 ⟨rfl, hb4⟩
  have B4 : Hid (Below w.heap.size w w4) := bel_trans B2.out hb4
  have hR4 : Hid (_) := hR2.out.below hb4 hlt2
  clear c0 c1 c2 c3 c4 c5 c6 hb4 hR2 B2
  obtain ⟨c0, c1, c2, c3, c4, c5, c6, fz, hlt4⟩ := hR4.out
  simp only at c0 c1 c2 c3 c4 c5 c6
  clear fz
  cases m2
  · go_wp2
    go_ret
    exact ⟨ret_bool (by simp [hm]), B4.out⟩
  go_wp2_with fail
  refine (U3.out _).mono ?_; rintro e w3 ⟨rfl, rfl⟩
  cases u3
  · go_wp2
    go_ret
    exact ⟨ret_bool (by simp [hm]), B4.out⟩
  go_wp2
  go_ret
  exact ⟨ret_bool (by simp [hm]; omega), B4.out⟩

end Go.Proofs.Ytedbihckdbpebaa
