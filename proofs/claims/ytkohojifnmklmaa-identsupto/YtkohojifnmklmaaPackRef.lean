/-
  Contracts of the document's own answers of layer 7: within, PacketMay.
-/
import Derived.Test.YtkohojifnmklmaaPackOver
import Derived.Test.YtkohojifnmklmaaPackMay
import Derived.Test.YtkohojifnmklmaaOptLend
namespace Go.Proofs.Ytkohojifnmklmaa
open Go.ChangeShapes Go.WideShapes Go.ChangeAt Go.RowKit Go.Pin Go.PlainAid

theorem inB_1 (x : Int) : decide (inB x 1) = (decide (0 ≤ x) && decide (x < 256)) := by
  unfold inB
  by_cases h0 : 0 ≤ x <;> by_cases h1 : x < 256 <;> simp [h0, h1]
theorem within_1 (x : Int) (w : World) : Calls Try.prog 29 #[.int .i64 x, .int .i64 8] w fun e w' => e = .returned (.bool (decide (inB x 1))) ∧ w' = w := by
  have hsh : ∀ w, (Op.shift BinOp.shl IntKind.i64 1 IntKind.i64 8).run Try.prog w = .ok (.int .i64 256) w := fun _ => by kernel_rfl
  rw [inB_1]
  by_cases h0 : 0 ≤ x
  · have h1 : decide (0 ≤ x) = true := by simpa using h0
    rw [h1, Bool.true_and]
    go_enter Try.func29, Try.ntmps29
    go_wp2
    go_ret
    exact ⟨rfl, rfl⟩
  · have h1 : decide (0 ≤ x) = false := by simpa using h0
    rw [h1, Bool.false_and]
    go_enter Try.func29, Try.ntmps29
    go_wp2
    go_ret
    exact ⟨rfl, rfl⟩
theorem inB_2 (x : Int) : decide (inB x 2) = (decide (0 ≤ x) && decide (x < 65536)) := by
  unfold inB
  by_cases h0 : 0 ≤ x <;> by_cases h1 : x < 65536 <;> simp [h0, h1]
theorem within_2 (x : Int) (w : World) : Calls Try.prog 29 #[.int .i64 x, .int .i64 16] w fun e w' => e = .returned (.bool (decide (inB x 2))) ∧ w' = w := by
  have hsh : ∀ w, (Op.shift BinOp.shl IntKind.i64 1 IntKind.i64 16).run Try.prog w = .ok (.int .i64 65536) w := fun _ => by kernel_rfl
  rw [inB_2]
  by_cases h0 : 0 ≤ x
  · have h1 : decide (0 ≤ x) = true := by simpa using h0
    rw [h1, Bool.true_and]
    go_enter Try.func29, Try.ntmps29
    go_wp2
    go_ret
    exact ⟨rfl, rfl⟩
  · have h1 : decide (0 ≤ x) = false := by simpa using h0
    rw [h1, Bool.false_and]
    go_enter Try.func29, Try.ntmps29
    go_wp2
    go_ret
    exact ⟨rfl, rfl⟩
theorem inB_4 (x : Int) : decide (inB x 4) = (decide (0 ≤ x) && decide (x < 4294967296)) := by
  unfold inB
  by_cases h0 : 0 ≤ x <;> by_cases h1 : x < 4294967296 <;> simp [h0, h1]
theorem within_4 (x : Int) (w : World) : Calls Try.prog 29 #[.int .i64 x, .int .i64 32] w fun e w' => e = .returned (.bool (decide (inB x 4))) ∧ w' = w := by
  have hsh : ∀ w, (Op.shift BinOp.shl IntKind.i64 1 IntKind.i64 32).run Try.prog w = .ok (.int .i64 4294967296) w := fun _ => by kernel_rfl
  rw [inB_4]
  by_cases h0 : 0 ≤ x
  · have h1 : decide (0 ≤ x) = true := by simpa using h0
    rw [h1, Bool.true_and]
    go_enter Try.func29, Try.ntmps29
    go_wp2
    go_ret
    exact ⟨rfl, rfl⟩
  · have h1 : decide (0 ≤ x) = false := by simpa using h0
    rw [h1, Bool.false_and]
    go_enter Try.func29, Try.ntmps29
    go_wp2
    go_ret
    exact ⟨rfl, rfl⟩
theorem mayP_row (p : Pk) : mayP p = (decide (inB p.op 1) && decide (inB p.ht 1) && decide (inB p.ho 1) && decide (inB p.xid 4) && decide (inB p.sc 2) && decide (inB p.fl 2) && decide (inB p.ci 4) && decide (inB p.yi 4) && decide (inB p.si 4) && decide (inB p.gi 4) && decide (p.ch.size ≤ 16) && mayO p.os) := by
  simp only [mayP, allB, List.all_cons, List.all_nil, Bool.and_true]
  ac_rfl
set_option maxRecDepth 100000 in
set_option maxHeartbeats 2000000 in
theorem rpMay_c (p : Pk) (a : Option Addr) (c : Nat) (w : World) (hL : OpLies w a p.os) (hl : p.os.length ≤ 10000000000000) (hch : p.ch.size ≤ maxLen) : Calls Try.prog 15 #[pv p a c] w fun e w' => e = .returned (.bool (mayP p)) ∧ Below w.heap.size w w' := by
  have HO : Hid (∀ w', Below w.heap.size w w' → _) := fun w' hb => rMay_c a c p.os w' hl (hL.below hb)
  have U0 : Hid (∀ w, _) := fun w => within_1 p.op w
  have U1 : Hid (∀ w, _) := fun w => within_1 p.ht w
  have U2 : Hid (∀ w, _) := fun w => within_1 p.ho w
  have U3 : Hid (∀ w, _) := fun w => within_4 p.xid w
  have U4 : Hid (∀ w, _) := fun w => within_2 p.sc w
  have U5 : Hid (∀ w, _) := fun w => within_2 p.fl w
  have U6 : Hid (∀ w, _) := fun w => within_4 p.ci w
  have U7 : Hid (∀ w, _) := fun w => within_4 p.yi w
  have U8 : Hid (∀ w, _) := fun w => within_4 p.si w
  have U9 : Hid (∀ w, _) := fun w => within_4 p.gi w
  have hm := mayP_row p
  have hx := (BoxP.new w p a c).all
  have B0 : Hid (Below w.heap.size w (w.alloc (.cells (cellsP p a c) 24))) := (Below.refl w.heap.size w).alloc (Nat.le_refl _) _
  have hchl : p.ch.size ≤ 9223372036854775807 := by unfold maxLen at hch; omega
  have hd : decide ((p.ch.size : Int) ≤ 16) = decide (p.ch.size ≤ 16) := by simp; omega
  generalize mayP p = V at *
  generalize decide (inB p.op 1) = v0 at *
  generalize decide (inB p.ht 1) = v1 at *
  generalize decide (inB p.ho 1) = v2 at *
  generalize decide (inB p.xid 4) = v3 at *
  generalize decide (inB p.sc 2) = v4 at *
  generalize decide (inB p.fl 2) = v5 at *
  generalize decide (inB p.ci 4) = v6 at *
  generalize decide (inB p.yi 4) = v7 at *
  generalize decide (inB p.si 4) = v8 at *
  generalize decide (inB p.gi 4) = v9 at *
  generalize mayO p.os = vo at *
  clear hL hch hl
  simp only [pv, cellsP] at *
  go_enter Try.func15, Try.ntmps15
  obtain ⟨w0, hw0⟩ : ∃ w0, w.alloc (.cells #[.int .i64 p.op, .int .i64 p.ht, .int .i64 p.ho, .int .i64 p.xid, .int .i64 p.sc, .int .i64 p.fl, .int .i64 p.ci, .int .i64 p.yi, .int .i64 p.si, .int .i64 p.gi, .string p.ch, .slice a p.os.length c] 24) = w0 := ⟨_, rfl⟩
  rw [hw0] at *
  clear hw0
  obtain ⟨c0, c1, c2, c3, c4, c5, c6, c7, c8, c9, c10, c11⟩ := hx
  go_wp2_with fail
  refine (U0.out _).mono ?_; rintro e w1 ⟨rfl, rfl⟩
  clear U0
  cases v0
  · go_wp2
    go_ret
    exact ⟨ret_bool (by simp [hm]), B0.out⟩
  go_wp2_with fail
  refine (U1.out _).mono ?_; rintro e w1 ⟨rfl, rfl⟩
  clear U1
  cases v1
  · go_wp2
    go_ret
    exact ⟨ret_bool (by simp [hm]), B0.out⟩
  go_wp2_with fail
  refine (U2.out _).mono ?_; rintro e w1 ⟨rfl, rfl⟩
  clear U2
  cases v2
  · go_wp2
    go_ret
    exact ⟨ret_bool (by simp [hm]), B0.out⟩
  go_wp2_with fail
  refine (U3.out _).mono ?_; rintro e w1 ⟨rfl, rfl⟩
  clear U3
  cases v3
  · go_wp2
    go_ret
    exact ⟨ret_bool (by simp [hm]), B0.out⟩
  go_wp2_with fail
  refine (U4.out _).mono ?_; rintro e w1 ⟨rfl, rfl⟩
  clear U4
  cases v4
  · go_wp2
    go_ret
    exact ⟨ret_bool (by simp [hm]), B0.out⟩
  go_wp2_with fail
  refine (U5.out _).mono ?_; rintro e w1 ⟨rfl, rfl⟩
  clear U5
  cases v5
  · go_wp2
    go_ret
    exact ⟨ret_bool (by simp [hm]), B0.out⟩
  go_wp2_with fail
  refine (U6.out _).mono ?_; rintro e w1 ⟨rfl, rfl⟩
  clear U6
  cases v6
  · go_wp2
    go_ret
    exact ⟨ret_bool (by simp [hm]), B0.out⟩
  go_wp2_with fail
  refine (U7.out _).mono ?_; rintro e w1 ⟨rfl, rfl⟩
  clear U7
  cases v7
  · go_wp2
    go_ret
    exact ⟨ret_bool (by simp [hm]), B0.out⟩
  go_wp2_with fail
  refine (U8.out _).mono ?_; rintro e w1 ⟨rfl, rfl⟩
  clear U8
  cases v8
  · go_wp2
    go_ret
    exact ⟨ret_bool (by simp [hm]), B0.out⟩
  go_wp2_with fail
  refine (U9.out _).mono ?_; rintro e w1 ⟨rfl, rfl⟩
  clear U9
  cases v9
  · go_wp2
    go_ret
    exact ⟨ret_bool (by simp [hm]), B0.out⟩
  by_cases h16 : p.ch.size ≤ 16
  · rw [decide_eq_true h16] at hd hm
    go_wp2_with fail
    refine (HO.out _ B0.out).mono ?_; rintro e w2 ⟨rfl, hb⟩
    have B2 : Hid (Below w.heap.size w w2) := bel_trans B0.out hb
    clear hb B0 HO
    go_wp2
    go_ret
    exact ⟨ret_bool (by simp [hm]), B2.out⟩
  · rw [decide_eq_false h16] at hd hm
    go_wp2
    go_ret
    exact ⟨ret_bool (by simp [hm]), B0.out⟩
end Go.Proofs.Ytkohojifnmklmaa
