/-
  The references' GetRr, path by path.
-/
import Derived.Test.YtdmooggmoihggaaGreatDoorRrRefGetH
namespace Go.Proofs.YtdmooggmoihggaaGreatDoor
set_option maxRecDepth 100000
open Go.ChangeShapes Go.WideShapes Go.ChangeAt Go.RowKit Go.Pin Go.PlainAid

set_option maxHeartbeats 2000000 in
theorem refGet_1 (s : ByteArray) (a : Int) (N : ByteArray) (m k : Nat) (ty ttl : Int) (w : World) (hs : s.size ≤ 1125899906842624) (h : Hd s a N m k ty ttl) (hty : ty = 1) :
    Calls Tryz.prog 62 #[.string s, .int .i64 a] w fun e w' => e = gotR (getRec s a) ∧ Below w.heap.size w w' := by
  subst hty
  have h10 := h.h10
  have he := h.he
  have hl := h.len
  have hsm : s.size ≤ maxLen := by unfold maxLen; omega
  have hV := h.get_1
  have hok : ((k : Int) == 4) = decide (k = 4) := by rw [Bool.eq_iff_iff]; simp; omega
  generalize decide (k = 4) = ok at *
  have HN : Hid (∀ w, _) := fun w => rget_c s a w hs
  rw [h.g] at HN
  have G1 : Hid (∀ w, Calls Tryz.prog 59 #[.string s, .int .i64 (m : Int), .int .i64 2] w fun e w' => e = .returned (.tuple #[.int .i64 1, .int .i64 0]) ∧ w' = w) := fun w => by
    have := rget_b s m 2 w (by omega) hsm
    rwa [getB_in s m 2 m rfl (by omega), h.v1] at this
  have G2 : Hid (∀ w, Calls Tryz.prog 59 #[.string s, .int .i64 ((m : Int) + 2), .int .i64 2] w fun e w' => e = .returned (.tuple #[.int .i64 1, .int .i64 0]) ∧ w' = w) := fun w => by
    have := rget_b s (m + 2) 2 w (by omega) hsm
    rwa [getB_in s (m + 2) 2 (m + 2) rfl (by omega), h.v2] at this
  have G3 : Hid (∀ w, Calls Tryz.prog 59 #[.string s, .int .i64 ((m : Int) + 4), .int .i64 4] w fun e w' => e = .returned (.tuple #[.int .i64 ttl, .int .i64 0]) ∧ w' = w) := fun w => by
    have := rget_b s (m + 4) 4 w (by omega) hsm
    rwa [getB_in s (m + 4) 4 (m + 4) rfl (by omega), h.v3] at this
  have G4 : Hid (∀ w, Calls Tryz.prog 59 #[.string s, .int .i64 ((m : Int) + 8), .int .i64 2] w fun e w' => e = .returned (.tuple #[.int .i64 (k : Int), .int .i64 0]) ∧ w' = w) := fun w => by
    have := rget_b s (m + 8) 2 w (by omega) hsm
    rwa [getB_in s (m + 8) 2 (m + 8) rfl (by omega), h.v4] at this
  have G5 : Hid (∀ w, _) := fun w => rget_b s ((m + 10 : Nat) : Int) 4 w (by omega) hsm
  generalize (getB s ((m + 10 : Nat) : Int) 4).1 = x at *
  generalize (getB s ((m + 10 : Nat) : Int) 4).2 = xe at *
  have HM : Hid (∀ w, _) := fun w => refMay_c ⟨N, 1, ttl, x, ⟨#[]⟩, ⟨#[]⟩, 0⟩ w (by simp only; omega) (by simp [ByteArray.size])
  generalize mayR ⟨N, 1, ttl, x, ⟨#[]⟩, ⟨#[]⟩, 0⟩ = mR at *
  have hV' : Hid (_) := hV
  generalize getRec s a = V at *
  have hm0 : (0 : Int) ≤ m := by omega
  have hm1 : (m : Int) ≤ 1125899906842624 := by omega
  have hk0 : (k : Int) ≤ 1125899906842624 := by omega
  have hr : ¬ ((s.size : Int) - m < 10) := by omega
  have hr2 : ¬ ((s.size : Int) < (m : Int) + 10 + k) := by omega
  clear h h10 he hV hsm
  simp only [told, rv, mk_bs, Int.natCast_add, Int.cast_ofNat_Int] at *
  go_enter Tryz.func62, Tryz.ntmps62
  go_wp2_with fail
  refine (HN.out _).mono ?_; rintro e w1 ⟨rfl, hb1⟩
  have Z1 : Hid (RecAt w1 w.heap.size zeroR) := (RecAt.new w zeroR 82).below hb1 (by simp)
  have B1 : Hid (Below w.heap.size w w1) := bel_trans ((Below.refl _ _).alloc (Nat.le_refl _) _) hb1
  have lt1 := Z1.out.lt
  clear hb1 HN
  go_wp2_with fail
  refine (G1.out _).mono ?_; rintro e w2 ⟨rfl, rfl⟩
  go_wp2_with fail
  refine (G2.out _).mono ?_; rintro e w2 ⟨rfl, rfl⟩
  go_wp2_with fail
  refine (G3.out _).mono ?_; rintro e w2 ⟨rfl, rfl⟩
  go_wp2_with fail
  refine (G4.out _).mono ?_; rintro e w2 ⟨rfl, rfl⟩
  clear G1 G2 G3 G4
  go_wp2_with fail
  have C3 : Hid (RecAt (w2.alloc (.cells #[.string N, .int .i64 1, .int .i64 ttl, .int .i64 0, .string ⟨#[]⟩, .string ⟨#[]⟩, .int .i64 0] 82)) w2.heap.size ⟨N, 1, ttl, 0, ⟨#[]⟩, ⟨#[]⟩, 0⟩) := RecAt.new w2 ⟨N, 1, ttl, 0, ⟨#[]⟩, ⟨#[]⟩, 0⟩ 82
  have BA : Below w2.heap.size w2 (w2.alloc (.cells #[.string N, .int .i64 1, .int .i64 ttl, .int .i64 0, .string ⟨#[]⟩, .string ⟨#[]⟩, .int .i64 0] 82)) := (Below.refl _ _).alloc (Nat.le_refl _) _
  have Z3 : Hid (RecAt (w2.alloc (.cells #[.string N, .int .i64 1, .int .i64 ttl, .int .i64 0, .string ⟨#[]⟩, .string ⟨#[]⟩, .int .i64 0] 82)) w.heap.size zeroR) := Z1.out.below BA lt1
  have B3 : Hid (Below w.heap.size w (w2.alloc (.cells #[.string N, .int .i64 1, .int .i64 ttl, .int .i64 0, .string ⟨#[]⟩, .string ⟨#[]⟩, .int .i64 0] 82))) := bel_trans B1.out BA
  clear Z1 B1 BA
  have hne : ¬ w2.heap.size = w.heap.size := by omega
  have hne' : ¬ w.heap.size = w2.heap.size := by omega
  generalize w2.alloc (.cells #[.string N, .int .i64 1, .int .i64 ttl, .int .i64 0, .string ⟨#[]⟩, .string ⟨#[]⟩, .int .i64 0] 82) = w3 at *
  obtain ⟨⟨q0, q1, q2, q3, q4, q5, q6⟩, p0, p1, p2, p3, p4, p5, p6⟩ := Z3.out.all
  simp only [zeroR] at q0 q1 q2 q3 q4 q5 q6
  obtain ⟨⟨c0, c1, c2, c3, c4, c5, c6⟩, d0, d1, d2, d3, d4, d5, d6⟩ := C3.out.all
  refine (G5.out _).mono ?_; rintro e w4 ⟨rfl, rfl⟩
  clear G5
  have C4 : Hid (_) := C3.out.set3 x
  have Z4 : Hid (_) := Z3.out.set (j := 3) (u := .int .i64 x) hne'
  have B4 : Hid (_) := B3.out.setCell (show w.heap.size ≤ (⟨w2.heap.size, 3, none⟩ : Addr).block from by simp only; omega) (.int .i64 x)
  cases ok
  · go_wp2
    have hf : RecAt (layR _ w.heap.size zeroR) w.heap.size zeroR := layR_rec Z4.out zeroR
    have Bf := layR_below B4.out (Nat.le_refl _) zeroR
    simp only [layR, zeroR] at hf Bf
    obtain ⟨a0, a1, a2, a3, a4, a5, a6, _, _⟩ := hf
    simp only at a0 a1 a2 a3 a4 a5 a6
    refine bodyPost_ret (v := .tuple #[.agg #[.string ⟨#[]⟩, .int .i64 0, .int .i64 0, .int .i64 0, .string ⟨#[]⟩, .string ⟨#[]⟩, .int .i64 0], .int .i64 0, .int .i64 400]) (by simp [results, Tryz.results62, go_sem, a0, a1, a2, a3, a4, a5, a6]) rfl ⟨?_, Bf⟩
    rw [hV'.out]; rfl
  · go_wp2_with fail
    refine (HM.out _).mono ?_; rintro e w5 ⟨rfl, hb5⟩
    have C5 : Hid (RecAt w5 w2.heap.size ⟨N, 1, ttl, x, ⟨#[]⟩, ⟨#[]⟩, 0⟩) := C4.out.below hb5 C4.out.lt
    have Z5 : Hid (RecAt w5 w.heap.size zeroR) := Z4.out.below hb5 Z4.out.lt
    have B5 : Hid (Below w.heap.size w w5) := bel_trans B4.out hb5
    clear hb5 q0 q1 q2 q3 q4 q5 q6 p0 p1 p2 p3 p4 p5 p6 c0 c1 c2 c3 c4 c5 c6 d0 d1 d2 d3 d4 d5 d6 C4 Z4 B4 C3 Z3 B3 HM
    obtain ⟨⟨q0, q1, q2, q3, q4, q5, q6⟩, p0, p1, p2, p3, p4, p5, p6⟩ := Z5.out.all
    simp only [zeroR] at q0 q1 q2 q3 q4 q5 q6
    obtain ⟨⟨c0, c1, c2, c3, c4, c5, c6⟩, d0, d1, d2, d3, d4, d5, d6⟩ := C5.out.all
    cases mR
    · go_wp2
      have hf : RecAt (layR _ w.heap.size zeroR) w.heap.size zeroR := layR_rec Z5.out zeroR
      have Bf := layR_below B5.out (Nat.le_refl _) zeroR
      simp only [layR, zeroR] at hf Bf
      obtain ⟨a0, a1, a2, a3, a4, a5, a6, _, _⟩ := hf
      simp only at a0 a1 a2 a3 a4 a5 a6
      refine bodyPost_ret (v := .tuple #[.agg #[.string ⟨#[]⟩, .int .i64 0, .int .i64 0, .int .i64 0, .string ⟨#[]⟩, .string ⟨#[]⟩, .int .i64 0], .int .i64 0, .int .i64 400]) (by simp [results, Tryz.results62, go_sem, a0, a1, a2, a3, a4, a5, a6]) rfl ⟨?_, Bf⟩
      rw [hV'.out]; rfl
    · go_wp2
      have hf := layR_rec Z5.out ⟨N, 1, ttl, x, ⟨#[]⟩, ⟨#[]⟩, 0⟩
      have Bf := layR_below B5.out (Nat.le_refl _) ⟨N, 1, ttl, x, ⟨#[]⟩, ⟨#[]⟩, 0⟩
      simp only [layR] at hf Bf
      obtain ⟨a0, a1, a2, a3, a4, a5, a6, _, _⟩ := hf
      simp only at a0 a1 a2 a3 a4 a5 a6
      refine bodyPost_ret (v := .tuple #[.agg #[.string N, .int .i64 1, .int .i64 ttl, .int .i64 x, .string ⟨#[]⟩, .string ⟨#[]⟩, .int .i64 0], .int .i64 ((m : Int) + 10 + k), .int .i64 0]) (by simp [results, Tryz.results62, go_sem, a0, a1, a2, a3, a4, a5, a6]) rfl ⟨?_, Bf⟩
      rw [hV'.out]; rfl

set_option maxHeartbeats 2000000 in
theorem refGet_2 (s : ByteArray) (a : Int) (N : ByteArray) (m k : Nat) (ty ttl : Int) (w : World) (hs : s.size ≤ 1125899906842624) (h : Hd s a N m k ty ttl) (hty : ty = 2) :
    Calls Tryz.prog 62 #[.string s, .int .i64 a] w fun e w' => e = gotR (getRec s a) ∧ Below w.heap.size w w' := by
  subst hty
  have h10 := h.h10
  have he := h.he
  have hl := h.len
  have hsm : s.size ≤ maxLen := by unfold maxLen; omega
  obtain ⟨t, nx, f, hq⟩ : ∃ (t : ByteArray) (nx f : Int), getL (bs (s.extract 0 (m + 10 + k))) (m + 10) = (bs t, nx, f) := ⟨mk (getL (bs (s.extract 0 (m + 10 + k))) (m + 10)).1, _, _, rfl⟩
  have hV := h.get_N (by decide) t nx f hq
  have ht := cut_len hq
  have hE : (((m + 10 + k : Nat) : Int)) = (m : Int) + 10 + k := by omega
  rw [hE] at hV
  have G5 : Hid (∀ w, Calls Tryz.prog 24 #[.string (s.extract 0 (m + 10 + k)), .int .i64 ((m : Int) + 10)] w fun e w' => e = .returned (.tuple #[.string t, .int .i64 nx, .int .i64 f]) ∧ Below w.heap.size w w') := fun w => by
    have := rget_c (s.extract 0 (m + 10 + k)) ((m + 10 : Nat) : Int) w (by simp; omega)
    rw [getI, if_neg (by omega), Int.toNat_natCast, hq] at this
    simp only [told, mk_bs, Int.natCast_add, Int.cast_ofNat_Int] at this
    exact this
  clear hq
  have HN : Hid (∀ w, _) := fun w => rget_c s a w hs
  rw [h.g] at HN
  have G1 : Hid (∀ w, Calls Tryz.prog 59 #[.string s, .int .i64 (m : Int), .int .i64 2] w fun e w' => e = .returned (.tuple #[.int .i64 2, .int .i64 0]) ∧ w' = w) := fun w => by
    have := rget_b s m 2 w (by omega) hsm
    rwa [getB_in s m 2 m rfl (by omega), h.v1] at this
  have G2 : Hid (∀ w, Calls Tryz.prog 59 #[.string s, .int .i64 ((m : Int) + 2), .int .i64 2] w fun e w' => e = .returned (.tuple #[.int .i64 1, .int .i64 0]) ∧ w' = w) := fun w => by
    have := rget_b s (m + 2) 2 w (by omega) hsm
    rwa [getB_in s (m + 2) 2 (m + 2) rfl (by omega), h.v2] at this
  have G3 : Hid (∀ w, Calls Tryz.prog 59 #[.string s, .int .i64 ((m : Int) + 4), .int .i64 4] w fun e w' => e = .returned (.tuple #[.int .i64 ttl, .int .i64 0]) ∧ w' = w) := fun w => by
    have := rget_b s (m + 4) 4 w (by omega) hsm
    rwa [getB_in s (m + 4) 4 (m + 4) rfl (by omega), h.v3] at this
  have G4 : Hid (∀ w, Calls Tryz.prog 59 #[.string s, .int .i64 ((m : Int) + 8), .int .i64 2] w fun e w' => e = .returned (.tuple #[.int .i64 (k : Int), .int .i64 0]) ∧ w' = w) := fun w => by
    have := rget_b s (m + 8) 2 w (by omega) hsm
    rwa [getB_in s (m + 8) 2 (m + 8) rfl (by omega), h.v4] at this
  have HM : Hid (∀ w, _) := fun w => refMay_c ⟨N, 2, ttl, 0, t, ⟨#[]⟩, 0⟩ w (by simp only; omega) (by simp only; omega)
  generalize mayR ⟨N, 2, ttl, 0, t, ⟨#[]⟩, 0⟩ = mR at *
  have hV' : Hid (_) := hV
  generalize getRec s a = V at *
  have hm0 : (0 : Int) ≤ m := by omega
  have hm1 : (m : Int) ≤ 1125899906842624 := by omega
  have hk0 : (k : Int) ≤ 1125899906842624 := by omega
  have hr : ¬ ((s.size : Int) - m < 10) := by omega
  have hr2 : ¬ ((s.size : Int) < (m : Int) + 10 + k) := by omega
  generalize hb1' : (f == 0) = b1 at *
  generalize hb2' : (nx == (m : Int) + 10 + k) = b2 at *
  clear h h10 he hV hsm
  simp only [told, rv, mk_bs, Int.natCast_add, Int.cast_ofNat_Int] at *
  go_enter Tryz.func62, Tryz.ntmps62
  go_wp2_with fail
  refine (HN.out _).mono ?_; rintro e w1 ⟨rfl, hb1⟩
  have Z1 : Hid (RecAt w1 w.heap.size zeroR) := (RecAt.new w zeroR 82).below hb1 (by simp)
  have B1 : Hid (Below w.heap.size w w1) := bel_trans ((Below.refl _ _).alloc (Nat.le_refl _) _) hb1
  have lt1 := Z1.out.lt
  clear hb1 HN
  go_wp2_with fail
  refine (G1.out _).mono ?_; rintro e w2 ⟨rfl, rfl⟩
  go_wp2_with fail
  refine (G2.out _).mono ?_; rintro e w2 ⟨rfl, rfl⟩
  go_wp2_with fail
  refine (G3.out _).mono ?_; rintro e w2 ⟨rfl, rfl⟩
  go_wp2_with fail
  refine (G4.out _).mono ?_; rintro e w2 ⟨rfl, rfl⟩
  clear G1 G2 G3 G4
  go_wp2_with fail
  have C3 : Hid (RecAt (w2.alloc (.cells #[.string N, .int .i64 2, .int .i64 ttl, .int .i64 0, .string ⟨#[]⟩, .string ⟨#[]⟩, .int .i64 0] 82)) w2.heap.size ⟨N, 2, ttl, 0, ⟨#[]⟩, ⟨#[]⟩, 0⟩) := RecAt.new w2 ⟨N, 2, ttl, 0, ⟨#[]⟩, ⟨#[]⟩, 0⟩ 82
  have BA : Below w2.heap.size w2 (w2.alloc (.cells #[.string N, .int .i64 2, .int .i64 ttl, .int .i64 0, .string ⟨#[]⟩, .string ⟨#[]⟩, .int .i64 0] 82)) := (Below.refl _ _).alloc (Nat.le_refl _) _
  have Z3 : Hid (RecAt (w2.alloc (.cells #[.string N, .int .i64 2, .int .i64 ttl, .int .i64 0, .string ⟨#[]⟩, .string ⟨#[]⟩, .int .i64 0] 82)) w.heap.size zeroR) := Z1.out.below BA lt1
  have B3 : Hid (Below w.heap.size w (w2.alloc (.cells #[.string N, .int .i64 2, .int .i64 ttl, .int .i64 0, .string ⟨#[]⟩, .string ⟨#[]⟩, .int .i64 0] 82))) := bel_trans B1.out BA
  clear Z1 B1 BA
  have hne : ¬ w2.heap.size = w.heap.size := by omega
  have hne' : ¬ w.heap.size = w2.heap.size := by omega
  generalize w2.alloc (.cells #[.string N, .int .i64 2, .int .i64 ttl, .int .i64 0, .string ⟨#[]⟩, .string ⟨#[]⟩, .int .i64 0] 82) = w3 at *
  refine (G5.out _).mono ?_; rintro e w4 ⟨rfl, hb4⟩
  replace C3 : Hid (RecAt w4 w2.heap.size ⟨N, 2, ttl, 0, ⟨#[]⟩, ⟨#[]⟩, 0⟩) := C3.out.below hb4 C3.out.lt
  replace Z3 : Hid (RecAt w4 w.heap.size zeroR) := Z3.out.below hb4 Z3.out.lt
  replace B3 : Hid (Below w.heap.size w w4) := bel_trans B3.out hb4
  clear hb4 G5
  obtain ⟨⟨q0, q1, q2, q3, q4, q5, q6⟩, p0, p1, p2, p3, p4, p5, p6⟩ := Z3.out.all
  simp only [zeroR] at q0 q1 q2 q3 q4 q5 q6
  obtain ⟨⟨c0, c1, c2, c3, c4, c5, c6⟩, d0, d1, d2, d3, d4, d5, d6⟩ := C3.out.all
  have C4 : Hid (_) := C3.out.set4 t
  have Z4 : Hid (_) := Z3.out.set (j := 4) (u := .string t) hne'
  have B4 : Hid (_) := B3.out.setCell (show w.heap.size ≤ (⟨w2.heap.size, 4, none⟩ : Addr).block from by simp only; omega) (.string t)
  cases b1
  · go_wp2
    have hf : RecAt (layR _ w.heap.size zeroR) w.heap.size zeroR := layR_rec Z4.out zeroR
    have Bf := layR_below B4.out (Nat.le_refl _) zeroR
    simp only [layR, zeroR] at hf Bf
    obtain ⟨a0, a1, a2, a3, a4, a5, a6, _, _⟩ := hf
    simp only at a0 a1 a2 a3 a4 a5 a6
    refine bodyPost_ret (v := .tuple #[.agg #[.string ⟨#[]⟩, .int .i64 0, .int .i64 0, .int .i64 0, .string ⟨#[]⟩, .string ⟨#[]⟩, .int .i64 0], .int .i64 0, .int .i64 400]) (by simp [results, Tryz.results62, go_sem, a0, a1, a2, a3, a4, a5, a6]) rfl ⟨?_, Bf⟩
    rw [hV'.out]; rfl
  cases b2
  · go_wp2
    have hf : RecAt (layR _ w.heap.size zeroR) w.heap.size zeroR := layR_rec Z4.out zeroR
    have Bf := layR_below B4.out (Nat.le_refl _) zeroR
    simp only [layR, zeroR] at hf Bf
    obtain ⟨a0, a1, a2, a3, a4, a5, a6, _, _⟩ := hf
    simp only at a0 a1 a2 a3 a4 a5 a6
    refine bodyPost_ret (v := .tuple #[.agg #[.string ⟨#[]⟩, .int .i64 0, .int .i64 0, .int .i64 0, .string ⟨#[]⟩, .string ⟨#[]⟩, .int .i64 0], .int .i64 0, .int .i64 400]) (by simp [results, Tryz.results62, go_sem, a0, a1, a2, a3, a4, a5, a6]) rfl ⟨?_, Bf⟩
    rw [hV'.out]; rfl
  · go_wp2_with fail
    refine (HM.out _).mono ?_; rintro e w5 ⟨rfl, hb5⟩
    have C5 : Hid (RecAt w5 w2.heap.size ⟨N, 2, ttl, 0, t, ⟨#[]⟩, 0⟩) := C4.out.below hb5 C4.out.lt
    have Z5 : Hid (RecAt w5 w.heap.size zeroR) := Z4.out.below hb5 Z4.out.lt
    have B5 : Hid (Below w.heap.size w w5) := bel_trans B4.out hb5
    clear hb5 q0 q1 q2 q3 q4 q5 q6 p0 p1 p2 p3 p4 p5 p6 c0 c1 c2 c3 c4 c5 c6 d0 d1 d2 d3 d4 d5 d6 C4 Z4 B4 C3 Z3 B3 HM
    obtain ⟨⟨q0, q1, q2, q3, q4, q5, q6⟩, p0, p1, p2, p3, p4, p5, p6⟩ := Z5.out.all
    simp only [zeroR] at q0 q1 q2 q3 q4 q5 q6
    obtain ⟨⟨c0, c1, c2, c3, c4, c5, c6⟩, d0, d1, d2, d3, d4, d5, d6⟩ := C5.out.all
    cases mR
    · go_wp2
      have hf : RecAt (layR _ w.heap.size zeroR) w.heap.size zeroR := layR_rec Z5.out zeroR
      have Bf := layR_below B5.out (Nat.le_refl _) zeroR
      simp only [layR, zeroR] at hf Bf
      obtain ⟨a0, a1, a2, a3, a4, a5, a6, _, _⟩ := hf
      simp only at a0 a1 a2 a3 a4 a5 a6
      refine bodyPost_ret (v := .tuple #[.agg #[.string ⟨#[]⟩, .int .i64 0, .int .i64 0, .int .i64 0, .string ⟨#[]⟩, .string ⟨#[]⟩, .int .i64 0], .int .i64 0, .int .i64 400]) (by simp [results, Tryz.results62, go_sem, a0, a1, a2, a3, a4, a5, a6]) rfl ⟨?_, Bf⟩
      rw [hV'.out]; rfl
    · go_wp2
      have hf := layR_rec Z5.out ⟨N, 2, ttl, 0, t, ⟨#[]⟩, 0⟩
      have Bf := layR_below B5.out (Nat.le_refl _) ⟨N, 2, ttl, 0, t, ⟨#[]⟩, 0⟩
      simp only [layR] at hf Bf
      obtain ⟨a0, a1, a2, a3, a4, a5, a6, _, _⟩ := hf
      simp only at a0 a1 a2 a3 a4 a5 a6
      refine bodyPost_ret (v := .tuple #[.agg #[.string N, .int .i64 2, .int .i64 ttl, .int .i64 0, .string t, .string ⟨#[]⟩, .int .i64 0], .int .i64 ((m : Int) + 10 + k), .int .i64 0]) (by simp [results, Tryz.results62, go_sem, a0, a1, a2, a3, a4, a5, a6]) rfl ⟨?_, Bf⟩
      rw [hV'.out]; rfl

set_option maxHeartbeats 2000000 in
theorem refGet_5 (s : ByteArray) (a : Int) (N : ByteArray) (m k : Nat) (ty ttl : Int) (w : World) (hs : s.size ≤ 1125899906842624) (h : Hd s a N m k ty ttl) (hty : ty = 5) :
    Calls Tryz.prog 62 #[.string s, .int .i64 a] w fun e w' => e = gotR (getRec s a) ∧ Below w.heap.size w w' := by
  subst hty
  have h10 := h.h10
  have he := h.he
  have hl := h.len
  have hsm : s.size ≤ maxLen := by unfold maxLen; omega
  obtain ⟨t, nx, f, hq⟩ : ∃ (t : ByteArray) (nx f : Int), getL (bs (s.extract 0 (m + 10 + k))) (m + 10) = (bs t, nx, f) := ⟨mk (getL (bs (s.extract 0 (m + 10 + k))) (m + 10)).1, _, _, rfl⟩
  have hV := h.get_N (by decide) t nx f hq
  have ht := cut_len hq
  have hE : (((m + 10 + k : Nat) : Int)) = (m : Int) + 10 + k := by omega
  rw [hE] at hV
  have G5 : Hid (∀ w, Calls Tryz.prog 24 #[.string (s.extract 0 (m + 10 + k)), .int .i64 ((m : Int) + 10)] w fun e w' => e = .returned (.tuple #[.string t, .int .i64 nx, .int .i64 f]) ∧ Below w.heap.size w w') := fun w => by
    have := rget_c (s.extract 0 (m + 10 + k)) ((m + 10 : Nat) : Int) w (by simp; omega)
    rw [getI, if_neg (by omega), Int.toNat_natCast, hq] at this
    simp only [told, mk_bs, Int.natCast_add, Int.cast_ofNat_Int] at this
    exact this
  clear hq
  have HN : Hid (∀ w, _) := fun w => rget_c s a w hs
  rw [h.g] at HN
  have G1 : Hid (∀ w, Calls Tryz.prog 59 #[.string s, .int .i64 (m : Int), .int .i64 2] w fun e w' => e = .returned (.tuple #[.int .i64 5, .int .i64 0]) ∧ w' = w) := fun w => by
    have := rget_b s m 2 w (by omega) hsm
    rwa [getB_in s m 2 m rfl (by omega), h.v1] at this
  have G2 : Hid (∀ w, Calls Tryz.prog 59 #[.string s, .int .i64 ((m : Int) + 2), .int .i64 2] w fun e w' => e = .returned (.tuple #[.int .i64 1, .int .i64 0]) ∧ w' = w) := fun w => by
    have := rget_b s (m + 2) 2 w (by omega) hsm
    rwa [getB_in s (m + 2) 2 (m + 2) rfl (by omega), h.v2] at this
  have G3 : Hid (∀ w, Calls Tryz.prog 59 #[.string s, .int .i64 ((m : Int) + 4), .int .i64 4] w fun e w' => e = .returned (.tuple #[.int .i64 ttl, .int .i64 0]) ∧ w' = w) := fun w => by
    have := rget_b s (m + 4) 4 w (by omega) hsm
    rwa [getB_in s (m + 4) 4 (m + 4) rfl (by omega), h.v3] at this
  have G4 : Hid (∀ w, Calls Tryz.prog 59 #[.string s, .int .i64 ((m : Int) + 8), .int .i64 2] w fun e w' => e = .returned (.tuple #[.int .i64 (k : Int), .int .i64 0]) ∧ w' = w) := fun w => by
    have := rget_b s (m + 8) 2 w (by omega) hsm
    rwa [getB_in s (m + 8) 2 (m + 8) rfl (by omega), h.v4] at this
  have HM : Hid (∀ w, _) := fun w => refMay_c ⟨N, 5, ttl, 0, t, ⟨#[]⟩, 0⟩ w (by simp only; omega) (by simp only; omega)
  generalize mayR ⟨N, 5, ttl, 0, t, ⟨#[]⟩, 0⟩ = mR at *
  have hV' : Hid (_) := hV
  generalize getRec s a = V at *
  have hm0 : (0 : Int) ≤ m := by omega
  have hm1 : (m : Int) ≤ 1125899906842624 := by omega
  have hk0 : (k : Int) ≤ 1125899906842624 := by omega
  have hr : ¬ ((s.size : Int) - m < 10) := by omega
  have hr2 : ¬ ((s.size : Int) < (m : Int) + 10 + k) := by omega
  generalize hb1' : (f == 0) = b1 at *
  generalize hb2' : (nx == (m : Int) + 10 + k) = b2 at *
  clear h h10 he hV hsm
  simp only [told, rv, mk_bs, Int.natCast_add, Int.cast_ofNat_Int] at *
  go_enter Tryz.func62, Tryz.ntmps62
  go_wp2_with fail
  refine (HN.out _).mono ?_; rintro e w1 ⟨rfl, hb1⟩
  have Z1 : Hid (RecAt w1 w.heap.size zeroR) := (RecAt.new w zeroR 82).below hb1 (by simp)
  have B1 : Hid (Below w.heap.size w w1) := bel_trans ((Below.refl _ _).alloc (Nat.le_refl _) _) hb1
  have lt1 := Z1.out.lt
  clear hb1 HN
  go_wp2_with fail
  refine (G1.out _).mono ?_; rintro e w2 ⟨rfl, rfl⟩
  go_wp2_with fail
  refine (G2.out _).mono ?_; rintro e w2 ⟨rfl, rfl⟩
  go_wp2_with fail
  refine (G3.out _).mono ?_; rintro e w2 ⟨rfl, rfl⟩
  go_wp2_with fail
  refine (G4.out _).mono ?_; rintro e w2 ⟨rfl, rfl⟩
  clear G1 G2 G3 G4
  go_wp2_with fail
  have C3 : Hid (RecAt (w2.alloc (.cells #[.string N, .int .i64 5, .int .i64 ttl, .int .i64 0, .string ⟨#[]⟩, .string ⟨#[]⟩, .int .i64 0] 82)) w2.heap.size ⟨N, 5, ttl, 0, ⟨#[]⟩, ⟨#[]⟩, 0⟩) := RecAt.new w2 ⟨N, 5, ttl, 0, ⟨#[]⟩, ⟨#[]⟩, 0⟩ 82
  have BA : Below w2.heap.size w2 (w2.alloc (.cells #[.string N, .int .i64 5, .int .i64 ttl, .int .i64 0, .string ⟨#[]⟩, .string ⟨#[]⟩, .int .i64 0] 82)) := (Below.refl _ _).alloc (Nat.le_refl _) _
  have Z3 : Hid (RecAt (w2.alloc (.cells #[.string N, .int .i64 5, .int .i64 ttl, .int .i64 0, .string ⟨#[]⟩, .string ⟨#[]⟩, .int .i64 0] 82)) w.heap.size zeroR) := Z1.out.below BA lt1
  have B3 : Hid (Below w.heap.size w (w2.alloc (.cells #[.string N, .int .i64 5, .int .i64 ttl, .int .i64 0, .string ⟨#[]⟩, .string ⟨#[]⟩, .int .i64 0] 82))) := bel_trans B1.out BA
  clear Z1 B1 BA
  have hne : ¬ w2.heap.size = w.heap.size := by omega
  have hne' : ¬ w.heap.size = w2.heap.size := by omega
  generalize w2.alloc (.cells #[.string N, .int .i64 5, .int .i64 ttl, .int .i64 0, .string ⟨#[]⟩, .string ⟨#[]⟩, .int .i64 0] 82) = w3 at *
  refine (G5.out _).mono ?_; rintro e w4 ⟨rfl, hb4⟩
  replace C3 : Hid (RecAt w4 w2.heap.size ⟨N, 5, ttl, 0, ⟨#[]⟩, ⟨#[]⟩, 0⟩) := C3.out.below hb4 C3.out.lt
  replace Z3 : Hid (RecAt w4 w.heap.size zeroR) := Z3.out.below hb4 Z3.out.lt
  replace B3 : Hid (Below w.heap.size w w4) := bel_trans B3.out hb4
  clear hb4 G5
  obtain ⟨⟨q0, q1, q2, q3, q4, q5, q6⟩, p0, p1, p2, p3, p4, p5, p6⟩ := Z3.out.all
  simp only [zeroR] at q0 q1 q2 q3 q4 q5 q6
  obtain ⟨⟨c0, c1, c2, c3, c4, c5, c6⟩, d0, d1, d2, d3, d4, d5, d6⟩ := C3.out.all
  have C4 : Hid (_) := C3.out.set4 t
  have Z4 : Hid (_) := Z3.out.set (j := 4) (u := .string t) hne'
  have B4 : Hid (_) := B3.out.setCell (show w.heap.size ≤ (⟨w2.heap.size, 4, none⟩ : Addr).block from by simp only; omega) (.string t)
  cases b1
  · go_wp2
    have hf : RecAt (layR _ w.heap.size zeroR) w.heap.size zeroR := layR_rec Z4.out zeroR
    have Bf := layR_below B4.out (Nat.le_refl _) zeroR
    simp only [layR, zeroR] at hf Bf
    obtain ⟨a0, a1, a2, a3, a4, a5, a6, _, _⟩ := hf
    simp only at a0 a1 a2 a3 a4 a5 a6
    refine bodyPost_ret (v := .tuple #[.agg #[.string ⟨#[]⟩, .int .i64 0, .int .i64 0, .int .i64 0, .string ⟨#[]⟩, .string ⟨#[]⟩, .int .i64 0], .int .i64 0, .int .i64 400]) (by simp [results, Tryz.results62, go_sem, a0, a1, a2, a3, a4, a5, a6]) rfl ⟨?_, Bf⟩
    rw [hV'.out]; rfl
  cases b2
  · go_wp2
    have hf : RecAt (layR _ w.heap.size zeroR) w.heap.size zeroR := layR_rec Z4.out zeroR
    have Bf := layR_below B4.out (Nat.le_refl _) zeroR
    simp only [layR, zeroR] at hf Bf
    obtain ⟨a0, a1, a2, a3, a4, a5, a6, _, _⟩ := hf
    simp only at a0 a1 a2 a3 a4 a5 a6
    refine bodyPost_ret (v := .tuple #[.agg #[.string ⟨#[]⟩, .int .i64 0, .int .i64 0, .int .i64 0, .string ⟨#[]⟩, .string ⟨#[]⟩, .int .i64 0], .int .i64 0, .int .i64 400]) (by simp [results, Tryz.results62, go_sem, a0, a1, a2, a3, a4, a5, a6]) rfl ⟨?_, Bf⟩
    rw [hV'.out]; rfl
  · go_wp2_with fail
    refine (HM.out _).mono ?_; rintro e w5 ⟨rfl, hb5⟩
    have C5 : Hid (RecAt w5 w2.heap.size ⟨N, 5, ttl, 0, t, ⟨#[]⟩, 0⟩) := C4.out.below hb5 C4.out.lt
    have Z5 : Hid (RecAt w5 w.heap.size zeroR) := Z4.out.below hb5 Z4.out.lt
    have B5 : Hid (Below w.heap.size w w5) := bel_trans B4.out hb5
    clear hb5 q0 q1 q2 q3 q4 q5 q6 p0 p1 p2 p3 p4 p5 p6 c0 c1 c2 c3 c4 c5 c6 d0 d1 d2 d3 d4 d5 d6 C4 Z4 B4 C3 Z3 B3 HM
    obtain ⟨⟨q0, q1, q2, q3, q4, q5, q6⟩, p0, p1, p2, p3, p4, p5, p6⟩ := Z5.out.all
    simp only [zeroR] at q0 q1 q2 q3 q4 q5 q6
    obtain ⟨⟨c0, c1, c2, c3, c4, c5, c6⟩, d0, d1, d2, d3, d4, d5, d6⟩ := C5.out.all
    cases mR
    · go_wp2
      have hf : RecAt (layR _ w.heap.size zeroR) w.heap.size zeroR := layR_rec Z5.out zeroR
      have Bf := layR_below B5.out (Nat.le_refl _) zeroR
      simp only [layR, zeroR] at hf Bf
      obtain ⟨a0, a1, a2, a3, a4, a5, a6, _, _⟩ := hf
      simp only at a0 a1 a2 a3 a4 a5 a6
      refine bodyPost_ret (v := .tuple #[.agg #[.string ⟨#[]⟩, .int .i64 0, .int .i64 0, .int .i64 0, .string ⟨#[]⟩, .string ⟨#[]⟩, .int .i64 0], .int .i64 0, .int .i64 400]) (by simp [results, Tryz.results62, go_sem, a0, a1, a2, a3, a4, a5, a6]) rfl ⟨?_, Bf⟩
      rw [hV'.out]; rfl
    · go_wp2
      have hf := layR_rec Z5.out ⟨N, 5, ttl, 0, t, ⟨#[]⟩, 0⟩
      have Bf := layR_below B5.out (Nat.le_refl _) ⟨N, 5, ttl, 0, t, ⟨#[]⟩, 0⟩
      simp only [layR] at hf Bf
      obtain ⟨a0, a1, a2, a3, a4, a5, a6, _, _⟩ := hf
      simp only at a0 a1 a2 a3 a4 a5 a6
      refine bodyPost_ret (v := .tuple #[.agg #[.string N, .int .i64 5, .int .i64 ttl, .int .i64 0, .string t, .string ⟨#[]⟩, .int .i64 0], .int .i64 ((m : Int) + 10 + k), .int .i64 0]) (by simp [results, Tryz.results62, go_sem, a0, a1, a2, a3, a4, a5, a6]) rfl ⟨?_, Bf⟩
      rw [hV'.out]; rfl

end Go.Proofs.YtdmooggmoihggaaGreatDoor
