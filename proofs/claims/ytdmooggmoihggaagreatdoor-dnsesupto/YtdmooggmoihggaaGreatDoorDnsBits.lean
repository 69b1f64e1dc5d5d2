/-
  Contracts of package dns's reader: the head's bits.
-/
import Derived.Test.YtdmooggmoihggaaGreatDoorDnsTake2
namespace Go.Proofs.YtdmooggmoihggaaGreatDoor
set_option maxRecDepth 100000
open Go.ChangeShapes Go.WideShapes Go.ChangeAt Go.RowKit Go.Pin Go.PlainAid

/-! ### a message's cells, stored -/
theorem heap_set {w : World} {c j : Nat} {cs : Array Value} {t : TypeId} {fr : Nat × Nat} {v : Value} (h : w.heap[c]? = some (.cells cs t fr)) : (w.setCell ⟨c, j, none⟩ v).heap[c]? = some (.cells (cs.setIfInBounds j v) t fr) := by
  simp [World.setCell, Array.getElem?_modify, h]
theorem BoxM.fz {w : World} {c : Nat} {m : Msg} {p : Pl} (h : BoxM w c m p) (j : Nat) : w.frozen? ⟨c, j, none⟩ = false := by
  rw [BoxM] at h
  simp only [World.frozen?, h]
  simp
theorem BoxM.set {w : World} {c : Nat} {m m' : Msg} {p p' : Pl} (h : BoxM w c m p) (j : Nat) (v : Value) (he : (cellsM m p).setIfInBounds j v = cellsM m' p') : BoxM (w.setCell ⟨c, j, none⟩ v) c m' p' := by
  unfold BoxM
  rw [heap_set h, he]
theorem BoxM.turn {w w' : World} {b c : Nat} {m : Msg} {p : Pl} (h : BoxM w c m p) (hb : Turn b w w') (hn : c ≠ b) : BoxM w' c m p := (hb.oth c hn h.lt).trans h
theorem BoxM.far {w : World} {c d j : Nat} {m : Msg} {p : Pl} {u : Value} (h : BoxM w c m p) (hn : c ≠ d) : BoxM (w.setCell ⟨d, j, none⟩ u) c m p := (Below.heap_setCell _ _ _ _ hn).trans h

/-! ### bits -/
theorem and_shift (n k M : Nat) : n &&& (M * 2 ^ k) = ((n / 2 ^ k) &&& M) * 2 ^ k := by
  have hp : 0 < 2 ^ k := Nat.two_pow_pos k
  have h1 : (n &&& (M * 2 ^ k)) / 2 ^ k = (n / 2 ^ k) &&& M := by rw [Nat.and_div_two_pow, Nat.mul_div_cancel _ hp]
  have h2 : (n &&& (M * 2 ^ k)) % 2 ^ k = 0 := by rw [Nat.and_mod_two_pow, Nat.mul_mod_left, Nat.and_zero]
  have := Nat.div_add_mod (n &&& (M * 2 ^ k)) (2 ^ k)
  rw [h1, h2, Nat.add_zero, Nat.mul_comm] at this
  exact this.symm
theorem and_bit (n k : Nat) (K : Int) (hn : n < 65536) (hk : k < 16) (hK : K = ((2 ^ k : Nat) : Int)) : (bits .and .i64 (n : Int) K != 0) = bit n K := by
  have hp : 2 ^ k ≤ 2 ^ 15 := Nat.pow_le_pow_right (by decide) (by omega)
  have hpos : 0 < 2 ^ k := Nat.two_pow_pos k
  have h1 := and_shift n k 1
  rw [Nat.one_mul, Nat.and_one_is_mod] at h1
  subst hK
  rw [i64_and_nat n (2 ^ k) (by omega) (by omega), h1]
  have hm : n / 2 ^ k % 2 < 2 := Nat.mod_lt _ (by decide)
  have hc : (n : Int) / ((2 ^ k : Nat) : Int) = ((n / 2 ^ k : Nat) : Int) := (Int.natCast_ediv n (2 ^ k)).symm
  unfold bit
  rw [hc]
  generalize n / 2 ^ k = q at *
  generalize 2 ^ k = P at *
  by_cases h : q % 2 = 1
  · have e1 : (((q % 2 * P : Nat) : Int) != 0) = true := by rw [h, Nat.one_mul]; simp; omega
    have e2 : decide ((q : Int) % 2 = 1) = true := by simp; omega
    rw [e1, e2]
  · have h0 : q % 2 = 0 := by omega
    have e2 : decide ((q : Int) % 2 = 1) = false := by simp; omega
    rw [h0, e2]; simp
theorem and_240 (n : Nat) (hn : n < 65536) : (bits .and .i64 (n : Int) 240 != 0) = !((n : Int) / 16 % 16 == 0) := by
  have := i64_and_nat n 240 (by omega) (by omega)
  rw [show ((240 : Nat) : Int) = 240 from rfl] at this
  have h3 := and_shift n 4 15
  rw [show (15 : Nat) = 2 ^ 4 - 1 by decide, Nat.and_two_pow_sub_one_eq_mod] at h3
  rw [this, show (240 : Nat) = (2 ^ 4 - 1) * 2 ^ 4 by decide, h3]
  by_cases h : (n : Int) / 16 % 16 = 0
  · have hq : n / 16 % 16 = 0 := by omega
    have e2 : ((n : Int) / 16 % 16 == 0) = true := by simpa using h
    rw [e2, show n / 2 ^ 4 % 2 ^ 4 = 0 from hq]; rfl
  · have hq : ¬ n / 2 ^ 4 % 2 ^ 4 = 0 := by omega
    have e1 : (((n / 2 ^ 4 % 2 ^ 4 * 2 ^ 4 : Nat) : Int) != 0) = true := by simp; omega
    have e2 : ((n : Int) / 16 % 16 == 0) = false := by simpa using h
    rw [e1, e2]; rfl
theorem is_c (v y : Int) (d : Nat) (V : Bool) (w : World) (hc : w.cell? ⟨d, 0, none⟩ = some (.int .i64 v)) (hv : (bits .and .i64 v y != 0) = V) :
    Calls Tryz.prog 84 #[.int .i64 y, .pointer (some ⟨d, 0, none⟩)] w fun e w' => e = .returned (.bool V) ∧ w' = w := by
  subst hv
  go_enter Tryz.func84, Tryz.ntmps84
  go_wp2
  go_ret
  exact ⟨rfl, rfl⟩
/-- What a message's bits tell. -/
def bitsR (v : Int) (m : Msg) : Msg := { m with rsp := bit v 32768, au := bit v 1024, tr := bit v 512, re := bit v 256, op := v / 2048 % 16, co := v % 16 }

set_option maxHeartbeats 1000000 in
theorem bits_r (b c : Nat) (s : ByteArray) (x : Tk) (m : Msg) (p : Pl) (w : World) (hs : s.size ≤ 1125899906842624) (h : TkAt w b s x) (hX : BoxM w c m p) (hbc : b ≠ c) :
    Calls Tryz.prog 50 #[.pointer (some ⟨b, 0, none⟩), .pointer (some ⟨c, 0, none⟩)] w fun e w' => e = .returned (.tuple #[]) ∧ TkAt w' b s (mustT ((numT s 2 x).1 / 16 % 16 == 0) (numT s 2 x).2) ∧ BoxM w' c (bitsR (numT s 2 x).1 m) p ∧ Turn2 b c w w' := by
  have hmf : ∀ (fn : Fn) (first cap : Array Value) (w : World), (Instr.makeFunc fn first cap).run Tryz.prog w = .ok (.func fn first cap) w := fun _ _ _ _ => rfl
  have hbd := numT_bd s 2 x
  obtain ⟨n, hn⟩ : ∃ n : Nat, (numT s 2 x).1 = n := ⟨(numT s 2 x).1.toNat, by omega⟩
  have hlt : n < 65536 := by omega
  have H0 : Hid (∀ w, TkAt w b s x → _) := fun w h => number_2t b s x w hs h
  have H1 : Hid (∀ w, TkAt w b s (numT s 2 x).2 → _) := fun w h => must_c b s (numT s 2 x).2 ((numT s 2 x).1 / 16 % 16 == 0) w h
  rw [hn] at H0 H1 ⊢
  clear hn hbd
  have A0 := and_240 n hlt
  have A1 := and_bit n 15 32768 hlt (by omega) rfl
  have A2 := and_bit n 10 1024 hlt (by omega) rfl
  have A3 := and_bit n 9 512 hlt (by omega) rfl
  have A4 := and_bit n 8 256 hlt (by omega) rfl
  have A5 : bits .and .i64 ((n : Int) / 2048) 15 = (n : Int) / 2048 % 16 := i64_mask 4 _ (by omega)
  have A6 : bits .and .i64 (n : Int) 15 = (n : Int) % 16 := i64_mask 4 _ (by omega)
  have HB : Hid (bitsR (n : Int) m = { m with rsp := bit n 32768, au := bit n 1024, tr := bit n 512, re := bit n 256, op := (n : Int) / 2048 % 16, co := (n : Int) % 16 }) := rfl
  generalize bitsR (n : Int) m = M at *
  have HC0 : Hid (∀ (d : Nat) (w : World), w.cell? ⟨d, 0, none⟩ = some (.int .i64 (n : Int)) → _) := fun d w hc => is_c n 240 d _ w hc A0
  have HC1 : Hid (∀ (d : Nat) (w : World), w.cell? ⟨d, 0, none⟩ = some (.int .i64 (n : Int)) → _) := fun d w hc => is_c n 32768 d _ w hc A1
  have HC2 : Hid (∀ (d : Nat) (w : World), w.cell? ⟨d, 0, none⟩ = some (.int .i64 (n : Int)) → _) := fun d w hc => is_c n 1024 d _ w hc A2
  have HC3 : Hid (∀ (d : Nat) (w : World), w.cell? ⟨d, 0, none⟩ = some (.int .i64 (n : Int)) → _) := fun d w hc => is_c n 512 d _ w hc A3
  have HC4 : Hid (∀ (d : Nat) (w : World), w.cell? ⟨d, 0, none⟩ = some (.int .i64 (n : Int)) → _) := fun d w hc => is_c n 256 d _ w hc A4
  generalize ((n : Int) / 16 % 16 == 0) = v0 at *
  generalize bit (n : Int) 32768 = v1 at *
  generalize bit (n : Int) 1024 = v2 at *
  generalize bit (n : Int) 512 = v3 at *
  generalize bit (n : Int) 256 = v4 at *
  have hX0 : Hid (BoxM w c m p) := hX
  have ltc := hX.lt
  have ltb := h.lt
  generalize mustT v0 (numT s 2 x).2 = y1 at *
  generalize (numT s 2 x).2 = y0 at *
  clear hs hX A0 A1 A2 A3 A4
  go_enter Tryz.func50, Tryz.ntmps50
  go_wp2_with fail
  refine (H0.out _ h).mono ?_; rintro e w1 ⟨rfl, hT1, hU1⟩
  have hsz := hU1.bel.size
  have hdb : ¬ w1.heap.size = b := by omega
  have hdc : ¬ w1.heap.size = c := by omega
  have hA : Below w1.heap.size w1 (w1.alloc (.cells #[.int .i64 n] 3)) := (Below.refl _ _).alloc (Nat.le_refl _) _
  have X1 : Hid (BoxM (w1.alloc (.cells #[.int .i64 n] 3)) c m p) := (hX0.out.turn hU1 hbc.symm).below hA
  have T1 : Hid (TkAt (w1.alloc (.cells #[.int .i64 n] 3)) b s y0) := hT1.below hA hT1.lt
  have U1 : Hid (Turn b w (w1.alloc (.cells #[.int .i64 n] 3))) := hU1.trans (Turn.of_below hA hT1.lt)
  have D1 : Hid ((w1.alloc (.cells #[.int .i64 n] 3)).heap[w1.heap.size]? = some (.cells #[.int .i64 n] 3 (0, 0))) := heap_alloc_new w1 _
  have Hd : Hid (∀ w' : World, w'.heap[w1.heap.size]? = some (.cells #[.int .i64 n] 3 (0, 0)) → w'.cell? ⟨w1.heap.size, 0, none⟩ = some (.int .i64 (n : Int))) := fun w' h => by simp only [World.cell?, h]; rfl
  clear hA hT1 hU1 H0 h hX0
  go_wp2_with fail
  generalize w1.alloc (.cells #[.int .i64 n] 3) = w2 at *
  generalize w1.heap.size = d at *
  go_region_held3 (fun _ => True) (trivial)
    (first
      | (go_at_call 84; refine (HC0.out _ (w2.drewN 1) (Hd.out (w2.drewN 1) D1.out)).mono ?_; rintro e w3 ⟨rfl, rfl⟩)
      | (go_at_call 20; refine (H1.out _ T1.out.drewN).mono ?_; rintro e w4 ⟨rfl, hT4, hU4⟩))
  have T4 : Hid (TkAt w4 b s y1) := hT4
  have X4 : Hid (BoxM w4 c m p) := X1.out.turn (dn_turn hU4) hbc.symm
  have U4 : Hid (Turn2 b c w w4) := Turn2.of1 (U1.out.trans (dn_turn hU4))
  have D4 : Hid (w4.heap[d]? = some (.cells #[.int .i64 n] 3 (0, 0))) := ((dn_turn hU4).oth d hdb (Array.getElem?_eq_some_iff.1 D1.out).1).trans D1.out
  clear hT4 hU4 X1 T1 U1 D1 H1 HC0
  have e4 := Hd.out _ D4.out
  have c4 := X4.out.cell 1
  have f4 := X4.out.fz 1
  simp only [cellsM, List.getElem?_toArray, List.getElem?_cons_zero, List.getElem?_cons_succ] at c4
  go_wp2_with fail
  refine (HC1.out _ _ e4).mono ?_; rintro e w4' ⟨rfl, rfl⟩
  have T5 : Hid (TkAt (w4'.setCell ⟨c, 1, none⟩ (.bool v1)) b s y1) := T4.out.set hbc
  have X5 : Hid (BoxM (w4'.setCell ⟨c, 1, none⟩ (.bool v1)) c { m with rsp := v1 } p) := X4.out.set 1 (.bool v1) rfl
  have U5 : Hid (Turn2 b c w (w4'.setCell ⟨c, 1, none⟩ (.bool v1))) := U4.out.trans (Turn2.set _ _ _)
  have D5 : Hid ((w4'.setCell ⟨c, 1, none⟩ (.bool v1)).heap[d]? = some (.cells #[.int .i64 n] 3 (0, 0))) := (Below.heap_setCell _ _ _ _ hdc).trans D4.out
  go_wp2_with fail
  clear e4 c4 f4 T4 X4 U4 D4 HC1
  generalize w4'.setCell ⟨c, 1, none⟩ (.bool v1) = w5 at *
  have e5 := Hd.out _ D5.out
  have c5 := X5.out.cell 3
  have f5 := X5.out.fz 3
  simp only [cellsM, List.getElem?_toArray, List.getElem?_cons_zero, List.getElem?_cons_succ] at c5
  go_wp2_with fail
  refine (HC2.out _ _ e5).mono ?_; rintro e w5' ⟨rfl, rfl⟩
  have T6 : Hid (TkAt (w5'.setCell ⟨c, 3, none⟩ (.bool v2)) b s y1) := T5.out.set hbc
  have X6 : Hid (BoxM (w5'.setCell ⟨c, 3, none⟩ (.bool v2)) c { m with rsp := v1, au := v2 } p) := X5.out.set 3 (.bool v2) rfl
  have U6 : Hid (Turn2 b c w (w5'.setCell ⟨c, 3, none⟩ (.bool v2))) := U5.out.trans (Turn2.set _ _ _)
  have D6 : Hid ((w5'.setCell ⟨c, 3, none⟩ (.bool v2)).heap[d]? = some (.cells #[.int .i64 n] 3 (0, 0))) := (Below.heap_setCell _ _ _ _ hdc).trans D5.out
  go_wp2_with fail
  clear e5 c5 f5 T5 X5 U5 D5 HC2
  generalize w5'.setCell ⟨c, 3, none⟩ (.bool v2) = w6 at *
  have e6 := Hd.out _ D6.out
  have c6 := X6.out.cell 4
  have f6 := X6.out.fz 4
  simp only [cellsM, List.getElem?_toArray, List.getElem?_cons_zero, List.getElem?_cons_succ] at c6
  go_wp2_with fail
  refine (HC3.out _ _ e6).mono ?_; rintro e w6' ⟨rfl, rfl⟩
  have T7 : Hid (TkAt (w6'.setCell ⟨c, 4, none⟩ (.bool v3)) b s y1) := T6.out.set hbc
  have X7 : Hid (BoxM (w6'.setCell ⟨c, 4, none⟩ (.bool v3)) c { m with rsp := v1, au := v2, tr := v3 } p) := X6.out.set 4 (.bool v3) rfl
  have U7 : Hid (Turn2 b c w (w6'.setCell ⟨c, 4, none⟩ (.bool v3))) := U6.out.trans (Turn2.set _ _ _)
  have D7 : Hid ((w6'.setCell ⟨c, 4, none⟩ (.bool v3)).heap[d]? = some (.cells #[.int .i64 n] 3 (0, 0))) := (Below.heap_setCell _ _ _ _ hdc).trans D6.out
  go_wp2_with fail
  clear e6 c6 f6 T6 X6 U6 D6 HC3
  generalize w6'.setCell ⟨c, 4, none⟩ (.bool v3) = w7 at *
  have e7 := Hd.out _ D7.out
  have c7 := X7.out.cell 5
  have f7 := X7.out.fz 5
  simp only [cellsM, List.getElem?_toArray, List.getElem?_cons_zero, List.getElem?_cons_succ] at c7
  go_wp2_with fail
  refine (HC4.out _ _ e7).mono ?_; rintro e w7' ⟨rfl, rfl⟩
  have T8 : Hid (TkAt (w7'.setCell ⟨c, 5, none⟩ (.bool v4)) b s y1) := T7.out.set hbc
  have X8 : Hid (BoxM (w7'.setCell ⟨c, 5, none⟩ (.bool v4)) c { m with rsp := v1, au := v2, tr := v3, re := v4 } p) := X7.out.set 5 (.bool v4) rfl
  have U8 : Hid (Turn2 b c w (w7'.setCell ⟨c, 5, none⟩ (.bool v4))) := U7.out.trans (Turn2.set _ _ _)
  have D8 : Hid ((w7'.setCell ⟨c, 5, none⟩ (.bool v4)).heap[d]? = some (.cells #[.int .i64 n] 3 (0, 0))) := (Below.heap_setCell _ _ _ _ hdc).trans D7.out
  have e8 := Hd.out _ D8.out
  have c8 := X8.out.cell 2
  have f8 := X8.out.fz 2
  simp only [cellsM, List.getElem?_toArray, List.getElem?_cons_zero, List.getElem?_cons_succ] at c8
  have X9 := X8.out.set (m' := { m with rsp := v1, au := v2, tr := v3, re := v4, op := (n : Int) / 2048 % 16 }) (p' := p) 2 (.int .i64 ((n : Int) / 2048 % 16)) rfl
  have e9 := Hd.out _ ((Below.heap_setCell (w7'.setCell ⟨c, 5, none⟩ (.bool v4)) ⟨c, 2, none⟩ (.int .i64 ((n : Int) / 2048 % 16)) d hdc).trans D8.out)
  have c9 := X9.cell 6
  have f9 := X9.fz 6
  simp only [cellsM, List.getElem?_toArray, List.getElem?_cons_zero, List.getElem?_cons_succ] at c9
  have HX : Hid (BoxM (((w7'.setCell ⟨c, 5, none⟩ (.bool v4)).setCell ⟨c, 2, none⟩ (.int .i64 ((n : Int) / 2048 % 16))).setCell ⟨c, 6, none⟩ (.int .i64 ((n : Int) % 16))) c M p) := by
    rw [HB.out]
    exact X9.set 6 (.int .i64 ((n : Int) % 16)) rfl
  have HT : Hid (TkAt (((w7'.setCell ⟨c, 5, none⟩ (.bool v4)).setCell ⟨c, 2, none⟩ (.int .i64 ((n : Int) / 2048 % 16))).setCell ⟨c, 6, none⟩ (.int .i64 ((n : Int) % 16))) b s y1) := (T8.out.set hbc).set hbc
  have HU : Hid (Turn2 b c w (((w7'.setCell ⟨c, 5, none⟩ (.bool v4)).setCell ⟨c, 2, none⟩ (.int .i64 ((n : Int) / 2048 % 16))).setCell ⟨c, 6, none⟩ (.int .i64 ((n : Int) % 16)))) := (U8.out.trans (Turn2.set _ _ _)).trans (Turn2.set _ _ _)
  clear X9 T8 U8 X8 D8 HB T7 X7 U7 D7 HC4
  go_wp2
  go_end0
  exact ⟨rfl, HT.out, HX.out, HU.out⟩

end Go.Proofs.YtdmooggmoihggaaGreatDoor
