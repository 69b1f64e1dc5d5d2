/-
  pinfoldlaw7.PacketHeads, at every packet: it returns true; what came in reads as it did. No condition.
-/
import Derived.Test.YtghbaojilhgllaaAwake7
import Derived.Test.YtghbaojilhgllaaPackOpen
import Derived.Test.YtghbaojilhgllaaMade
import Derived.WalkKit
import Derived.ProofKit
import Derived.OpenShut
import Derived.ShutString
import Derived.ChangeOld
import Derived.SizedLaws
import Derived.Carry
namespace Go.Proofs.Ytghbaojilhgllaa
namespace packetHeads
open Go.ChangeShapes Go.WideShapes Go.ChangeAt Go.RowKit Go.Pin Go.PlainAid Go.ChangeMaps

theorem or4 (a b c d : Int) (ha : 0 ≤ a ∧ a < 256) (hb : 0 ≤ b ∧ b < 256) (hc : 0 ≤ c ∧ c < 256) (hd : 0 ≤ d ∧ d < 256) :
    bits .or .i64 (bits .or .i64 (bits .or .i64 (a * 16777216) (b * 65536)) (c * 256)) d = ((a * 256 + b) * 256 + c) * 256 + d := by
  obtain ⟨a, rfl⟩ := Int.eq_ofNat_of_zero_le ha.1
  obtain ⟨b, rfl⟩ := Int.eq_ofNat_of_zero_le hb.1
  obtain ⟨c, rfl⟩ := Int.eq_ofNat_of_zero_le hc.1
  obtain ⟨d, rfl⟩ := Int.eq_ofNat_of_zero_le hd.1
  have e1 : bits .or .i64 ((a : Int) * 16777216) ((b : Int) * 65536) = ((a * 16777216 + b * 65536 : Nat) : Int) := by
    have := i64_or_nat (a * 16777216) (b * 65536) (by omega) (by omega)
    rw [nat_join 24 (a * 16777216) (b * 65536) (by omega) (by omega)] at this
    simpa using this
  have e2 : bits .or .i64 ((a * 16777216 + b * 65536 : Nat) : Int) ((c : Int) * 256) = ((a * 16777216 + b * 65536 + c * 256 : Nat) : Int) := by
    have := i64_or_nat (a * 16777216 + b * 65536) (c * 256) (by omega) (by omega)
    rw [nat_join 16 (a * 16777216 + b * 65536) (c * 256) (by omega) (by omega)] at this
    simpa using this
  have e3 : bits .or .i64 ((a * 16777216 + b * 65536 + c * 256 : Nat) : Int) (d : Int) = ((a * 16777216 + b * 65536 + c * 256 + d : Nat) : Int) := by
    have := i64_or_nat (a * 16777216 + b * 65536 + c * 256) d (by omega) (by omega)
    rw [nat_join 8 (a * 16777216 + b * 65536 + c * 256) d (by omega) (by omega)] at this
    simpa using this
  rw [e1, e2, e3]
  omega
theorem bt_small (S : ByteArray) (a : Nat) : 0 ≤ bt S a ∧ bt S a < 256 := ⟨bt_nonneg S a, by have := bt_le S a; omega⟩
theorem num_one (S : ByteArray) (a : Nat) : num S a 1 = bt S a := by simp [num]
theorem num_four (S : ByteArray) (a : Nat) : num S a 4 = ((bt S a * 256 + bt S (a + 1)) * 256 + bt S (a + 2)) * 256 + bt S (a + 3) := by simp [num]
theorem num_2 (S : ByteArray) (a : Nat) : num S a 2 = bt S a * 256 + bt S (a + 1) := by simp [num]
theorem told4 (S : ByteArray) (a : Nat) : bits .or .i64 (bits .or .i64 (bits .or .i64 (bt S a * 16777216) (bt S (a + 1) * 65536)) (bt S (a + 2) * 256)) (bt S (a + 3)) = num S a 4 := by
  rw [or4 _ _ _ _ (bt_small S a) (bt_small S (a + 1)) (bt_small S (a + 2)) (bt_small S (a + 3)), num_four]
theorem told2 (S : ByteArray) (a : Nat) : bits .or .i64 (bt S a * 256) (bt S (a + 1)) = num S a 2 := by
  have h0 := bt_small S a
  have h1 := bt_small S (a + 1)
  have := or_byte (bt S a) (bt S (a + 1)) h0.1 (by omega) h1.1 (by omega)
  rw [show wrap64 (bt S a * 256) = bt S a * 256 by unfold wrap64; omega, show wrap64 (bt S (a + 1)) = bt S (a + 1) by unfold wrap64; omega] at this
  rw [this, num_2]
theorem made192 : ∃ cs : Array Value, (∀ w : World, (Instr.makeSlice 26 (.int .i64 192) (.int .i64 192)).run Try.prog w = .ok (.slice (some ⟨w.heap.size, 0, none⟩) 192 192) (w.alloc (.cells cs 5))) ∧
    (∀ w : World, (convert 26 9 (.slice (some ⟨w.heap.size, 0, none⟩) 192 192)).run Try.prog (w.alloc (.cells cs 5)) = .ok (.string (mk (List.replicate 192 0))) (w.alloc (.cells cs 5))) := made_all 192 (by omega)
set_option maxRecDepth 100000 in
set_option maxHeartbeats 2000000 in
theorem walk_no (p : Pk) (a : Option Addr) (c : Nat) (w : World) (hL : OpLies w a p.os) (hch : p.ch.size ≤ maxLen) (hA : putP p = ([], 700)) : Calls Try.prog 8 #[pv p a c] w fun e w' => e = .returned (.bool true) ∧ Below w.heap.size w w' := by
  have HP : Hid (∀ w', Below w.heap.size w w' → _) := fun w' hb => pPut_c p a c w' (hL.below hb) hch
  rw [hA] at HP
  simp only [mk] at HP
  have BX : Hid (BoxP (w.alloc (.cells (cellsP p a c) 40)) w.heap.size p a c) := BoxP.new w p a c
  have B0 : Hid (Below w.heap.size w (w.alloc (.cells (cellsP p a c) 40))) := (Below.refl w.heap.size w).alloc (Nat.le_refl _) _
  have hcell : Hid (∀ w', BoxP w' w.heap.size p a c → _) := fun w' h => h.all
  clear hA hL hch
  simp only [pv, cellsP] at *
  go_enter Try.func8, Try.ntmps8
  go_wp2_with fail
  refine (awake7_yes _).mono ?_; rintro e w1 ⟨rfl, hb⟩
  have B1 : Hid (Below w.heap.size w w1) := bel_trans B0.out hb
  obtain ⟨c0, c1, c2, c3, c4, c5, c6, c7, c8, c9, c10, c11⟩ := hcell.out _ (BX.out.below hb)
  clear hb B0 BX
  go_wp2_with fail
  refine (HP.out _ B1.out).mono ?_; rintro e w2 ⟨rfl, hb⟩
  have B2 : Hid (Below w.heap.size w w2) := bel_trans B1.out hb
  clear hb B1 c0 c1 c2 c3 c4 c5 c6 c7 c8 c9 c10 c11 HP
  go_wp2_with (go_at_call 13; refine (num_any _ _).mono ?_; rintro e w7 ⟨rfl, rfl⟩)
  go_ret
  exact ⟨rfl, B2.out⟩
set_option maxRecDepth 100000 in
set_option maxHeartbeats 40000000 in
theorem walk_yes (p : Pk) (a : Option Addr) (c : Nat) (w : World) (hL : OpLies w a p.os) (hm : mayP p = true) (hA : putP p = (headP p ++ putO p.os, 0)) (hl : (putO p.os).length ≤ 1200) : Calls Try.prog 8 #[pv p a c] w fun e w' => e = .returned (.bool true) ∧ Below w.heap.size w w' := by
  obtain ⟨m1, m2, m4, h16, ho⟩ := (mayP_iff p).1 hm
  have HP : Hid (∀ w', Below w.heap.size w w' → _) := fun w' hb => pPut_c p a c w' (hL.below hb) (by unfold maxLen; omega)
  rw [hA] at HP
  simp only at HP
  obtain ⟨n0, n1, n2, n3, n4, n8, n10, n12, n16, n20, n24, n236, c28, c44, c108, d240, hsize⟩ := whole_nums p (List.replicate 64 0) (List.replicate 128 0) (putO p.os) ⟨m1, m2, m4, h16⟩ (by simp) (by simp)
  rw [← head_whole p h16] at n0 n1 n2 n3 n4 n8 n10 n12 n16 n20 n24 n236 c28 c44 c108 d240 hsize
  have hsz : (mk (headP p ++ putO p.os)).size ≤ 1440 := by rw [size_mk, List.length_append, head_len p h16]; omega
  obtain ⟨S, hS⟩ : ∃ S, mk (headP p ++ putO p.os) = S := ⟨_, rfl⟩
  rw [hS] at HP n0 n1 n2 n3 n4 n8 n10 n12 n16 n20 n24 n236 c28 c44 c108 d240 hsize hsz
  have x28 : S.extract 28 (28 + p.ch.size) = p.ch := by apply bs_inj; rw [bs_extract]; exact c28
  have x44 : S.extract 44 236 = mk (List.replicate 192 0) := by
    apply bs_inj
    rw [cut_bs S 44 236 (by decide), bs_mk]
    have e : ((bs S).drop 44).take (236 - 44) = cut S 44 64 ++ cut S 108 128 := by
      unfold cut
      rw [show 236 - 44 = 64 + 128 from rfl, List.take_add, List.drop_drop]
    rw [e, c44, c108, List.replicate_append_replicate]
  rw [num_one] at n0 n1 n2 n3
  rw [← told4] at n4 n12 n16 n20 n24
  rw [← told2] at n8 n10
  simp only [Nat.reduceAdd] at n4 n12 n16 n20 n24 n8 n10
  have s0 := bt_small S 0
  have s1 := bt_small S 1
  have s2 := bt_small S 2
  have s3 := bt_small S 3
  rw [n0] at s0
  rw [n1] at s1
  rw [n2] at s2
  rw [n3] at s3
  have u0 : IntKind.i64.wrap p.op = p.op := wrap_in _ (by omega) (by omega)
  have u1 : IntKind.i64.wrap p.ht = p.ht := wrap_in _ (by omega) (by omega)
  have u2 : IntKind.i64.wrap (p.ch.size : Int) = (p.ch.size : Int) := wrap_in _ (by omega) (by omega)
  have u3 : IntKind.i64.wrap p.ho = p.ho := wrap_in _ (by omega) (by omega)
  clear s0 s1 s2 s3
  have w0 : ∀ i, wrap64 (bt S i) = bt S i := fun i => by have := bt_small S i; unfold wrap64; omega
  have w8 : ∀ i, wrap64 (bt S i * 256) = bt S i * 256 := fun i => by have := bt_small S i; unfold wrap64; omega
  have w16 : ∀ i, wrap64 (bt S i * 65536) = bt S i * 65536 := fun i => by have := bt_small S i; unfold wrap64; omega
  have w24 : ∀ i, wrap64 (bt S i * 16777216) = bt S i * 16777216 := fun i => by have := bt_small S i; unfold wrap64; omega
  have hwr : ∀ x, IntKind.i64.wrap x = wrap64 x := fun x => by rw [IntKind.wrap_i64]; unfold wrap64; rfl
  have v0 : ∀ i, IntKind.i64.wrap (bt S i) = bt S i := fun i => by rw [hwr, w0]
  have v8 : ∀ i, IntKind.i64.wrap (bt S i * 256) = bt S i * 256 := fun i => by rw [hwr, w8]
  have v16 : ∀ i, IntKind.i64.wrap (bt S i * 65536) = bt S i * 65536 := fun i => by rw [hwr, w16]
  have v24 : ∀ i, IntKind.i64.wrap (bt S i * 16777216) = bt S i * 16777216 := fun i => by rw [hwr, w24]
  have hb := get_bt S
  obtain ⟨cs, hmk, hcv⟩ := made192
  have hcv2 : ∀ w : World, (convert 26 9 (.slice (some ⟨w.heap.size, 0, none⟩) 192 192)).run Try.prog ((w.alloc (.cells cs 5)).drew) = .ok (.string (mk (List.replicate 192 0))) ((w.alloc (.cells cs 5)).drew) := fun w => hcv w.drew
  generalize mk (List.replicate 192 (0 : UInt8)) = Z at *
  have BX : Hid (BoxP (w.alloc (.cells (cellsP p a c) 40)) w.heap.size p a c) := BoxP.new w p a c
  have B0 : Hid (Below w.heap.size w (w.alloc (.cells (cellsP p a c) 40))) := (Below.refl w.heap.size w).alloc (Nat.le_refl _) _
  have hcell : Hid (∀ w', BoxP w' w.heap.size p a c → _) := fun w' h => h.all
  have hbel : Hid (∀ w' w'', BoxP w' w.heap.size p a c → Below w'.heap.size w' w'' → BoxP w'' w.heap.size p a c) := fun w' w'' h1 h2 => h1.below h2
  clear hA hL hm ho hS hl hwr m1 m2 m4 n236 c28 c44 c108 d240
  simp only [pv, cellsP] at *
  go_enter Try.func8, Try.ntmps8
  go_wp2_with fail
  refine (awake7_yes _).mono ?_; rintro e w1 ⟨rfl, hb⟩
  have B1 : Hid (Below w.heap.size w w1) := bel_trans B0.out hb
  have X1 : Hid (BoxP w1 w.heap.size p a c) := hbel.out _ _ BX.out hb
  obtain ⟨c0, c1, c2, c3, c4, c5, c6, c7, c8, c9, c10, c11⟩ := hcell.out _ X1.out
  clear hb B0 BX
  go_wp2_with fail
  refine (HP.out _ B1.out).mono ?_; rintro e w2 ⟨rfl, hb⟩
  have B2 : Hid (Below w.heap.size w w2) := bel_trans B1.out hb
  have X2 : Hid (BoxP w2 w.heap.size p a c) := hbel.out _ _ X1.out hb
  clear hb B1 X1 c0 c1 c2 c3 c4 c5 c6 c7 c8 c9 c10 c11 HP
  obtain ⟨c0, c1, c2, c3, c4, c5, c6, c7, c8, c9, c10, c11⟩ := hcell.out _ X2.out
  have hz : ¬ S.size < 240 := by omega
  have z0 : 0 < S.size := by omega
  have i0 : (0 : Int) < (S.size : Int) := by omega
  have z1 : 1 < S.size := by omega
  have i1 : (1 : Int) < (S.size : Int) := by omega
  have z2 : 2 < S.size := by omega
  have i2 : (2 : Int) < (S.size : Int) := by omega
  have z3 : 3 < S.size := by omega
  have i3 : (3 : Int) < (S.size : Int) := by omega
  have z4 : 4 < S.size := by omega
  have i4 : (4 : Int) < (S.size : Int) := by omega
  have z5 : 5 < S.size := by omega
  have i5 : (5 : Int) < (S.size : Int) := by omega
  have z6 : 6 < S.size := by omega
  have i6 : (6 : Int) < (S.size : Int) := by omega
  have z7 : 7 < S.size := by omega
  have i7 : (7 : Int) < (S.size : Int) := by omega
  have z8 : 8 < S.size := by omega
  have i8 : (8 : Int) < (S.size : Int) := by omega
  have z9 : 9 < S.size := by omega
  have i9 : (9 : Int) < (S.size : Int) := by omega
  have z10 : 10 < S.size := by omega
  have i10 : (10 : Int) < (S.size : Int) := by omega
  have z11 : 11 < S.size := by omega
  have i11 : (11 : Int) < (S.size : Int) := by omega
  have z12 : 12 < S.size := by omega
  have i12 : (12 : Int) < (S.size : Int) := by omega
  have z13 : 13 < S.size := by omega
  have i13 : (13 : Int) < (S.size : Int) := by omega
  have z14 : 14 < S.size := by omega
  have i14 : (14 : Int) < (S.size : Int) := by omega
  have z15 : 15 < S.size := by omega
  have i15 : (15 : Int) < (S.size : Int) := by omega
  have z16 : 16 < S.size := by omega
  have i16 : (16 : Int) < (S.size : Int) := by omega
  have z17 : 17 < S.size := by omega
  have i17 : (17 : Int) < (S.size : Int) := by omega
  have z18 : 18 < S.size := by omega
  have i18 : (18 : Int) < (S.size : Int) := by omega
  have z19 : 19 < S.size := by omega
  have i19 : (19 : Int) < (S.size : Int) := by omega
  have z20 : 20 < S.size := by omega
  have i20 : (20 : Int) < (S.size : Int) := by omega
  have z21 : 21 < S.size := by omega
  have i21 : (21 : Int) < (S.size : Int) := by omega
  have z22 : 22 < S.size := by omega
  have i22 : (22 : Int) < (S.size : Int) := by omega
  have z23 : 23 < S.size := by omega
  have i23 : (23 : Int) < (S.size : Int) := by omega
  have z24 : 24 < S.size := by omega
  have i24 : (24 : Int) < (S.size : Int) := by omega
  have z25 : 25 < S.size := by omega
  have i25 : (25 : Int) < (S.size : Int) := by omega
  have z26 : 26 < S.size := by omega
  have i26 : (26 : Int) < (S.size : Int) := by omega
  have z27 : 27 < S.size := by omega
  have i27 : (27 : Int) < (S.size : Int) := by omega
  go_wp2_with (go_at_call 13; refine (num_any _ _).mono ?_; rintro e w7 ⟨rfl, rfl⟩)
  have hA : Below w7.heap.size w7 (w7.alloc (.cells #[.int .i64 p.ci, .int .i64 p.yi, .int .i64 p.si, .int .i64 p.gi] 3)) := (Below.refl _ _).alloc (Nat.le_refl _) _
  have B8 : Hid (Below w.heap.size w (w7.alloc (.cells #[.int .i64 p.ci, .int .i64 p.yi, .int .i64 p.si, .int .i64 p.gi] 3))) := bel_trans B2.out hA
  have X8 : Hid (BoxP (w7.alloc (.cells #[.int .i64 p.ci, .int .i64 p.yi, .int .i64 p.si, .int .i64 p.gi] 3)) w.heap.size p a c) := hbel.out _ _ X2.out hA
  have q0 : (w7.alloc (.cells #[.int .i64 p.ci, .int .i64 p.yi, .int .i64 p.si, .int .i64 p.gi] 3)).cell? ⟨w7.heap.size, 0, none⟩ = some (.int .i64 p.ci) := new_cell _ _ _ _ _ rfl
  have q1 : (w7.alloc (.cells #[.int .i64 p.ci, .int .i64 p.yi, .int .i64 p.si, .int .i64 p.gi] 3)).cell? ⟨w7.heap.size, 1, none⟩ = some (.int .i64 p.yi) := new_cell _ _ _ _ _ rfl
  have q2 : (w7.alloc (.cells #[.int .i64 p.ci, .int .i64 p.yi, .int .i64 p.si, .int .i64 p.gi] 3)).cell? ⟨w7.heap.size, 2, none⟩ = some (.int .i64 p.si) := new_cell _ _ _ _ _ rfl
  have q3 : (w7.alloc (.cells #[.int .i64 p.ci, .int .i64 p.yi, .int .i64 p.si, .int .i64 p.gi] 3)).cell? ⟨w7.heap.size, 3, none⟩ = some (.int .i64 p.gi) := new_cell _ _ _ _ _ rfl
  clear hA c0 c1 c2 c3 c4 c5 c6 c7 c8 c9 c10 c11 B2 X2
  obtain ⟨c0, c1, c2, c3, c4, c5, c6, c7, c8, c9, c10, c11⟩ := hcell.out _ X8.out
  generalize w7.alloc (.cells #[.int .i64 p.ci, .int .i64 p.yi, .int .i64 p.si, .int .i64 p.gi] 3) = w8 at *
  generalize w7.heap.size = q at *
  refine wp_loop_rounds 5 ?_
  rw [rounds_succ]
  go_wp2_with fail
  go_quiet (fail)
  rename Nat => m1
  go_wp2_with fail
  rw [rounds_succ]
  go_wp2_with fail
  go_quiet (fail)
  rename Nat => m2
  go_wp2_with fail
  rw [rounds_succ]
  go_wp2_with fail
  go_quiet (fail)
  rename Nat => m3
  go_wp2_with fail
  rw [rounds_succ]
  go_wp2_with fail
  go_quiet (fail)
  rename Nat => m4
  go_wp2_with fail
  rw [rounds_succ]
  go_wp2_with fail
  have hq : Below w8.heap.size w8 (w8.drewN (m1 + m2 + m3 + m4)) := below_drewN (Below.refl _ _) _
  have B9 : Hid (Below w.heap.size w (w8.drewN (m1 + m2 + m3 + m4))) := bel_trans B8.out hq
  have X9 : Hid (BoxP (w8.drewN (m1 + m2 + m3 + m4)) w.heap.size p a c) := hbel.out _ _ X8.out hq
  clear c0 c1 c2 c3 c4 c5 c6 c7 c8 c9 c10 c11 q0 q1 q2 q3 hq B8 X8
  generalize w8.drewN (m1 + m2 + m3 + m4) = w9 at *
  obtain ⟨c0, c1, c2, c3, c4, c5, c6, c7, c8, c9, c10, c11⟩ := hcell.out _ X9.out
  have hadd : IntKind.i64.wrap (28 + (p.ch.size : Int)) = 28 + (p.ch.size : Int) := wrap_in _ (by omega) (by omega)
  have hi1 : (28 : Int) ≤ 28 + (p.ch.size : Int) := by omega
  have hi2 : 28 + (p.ch.size : Int) ≤ (S.size : Int) := by omega
  have hi3 : (236 : Int) ≤ (S.size : Int) := by omega
  have hi0 : (0 : Int) ≤ 28 + (p.ch.size : Int) := by omega
  have x28' : S.extract 28 (28 + (p.ch.size : Int)).toNat = p.ch := by rw [show (28 + (p.ch.size : Int)).toNat = 28 + p.ch.size by omega]; exact x28
  have HB : Hid (∀ o, Below w.heap.size w ((w9.drew).alloc o)) := fun o => (bel_trans B9.out (below_drewN (Below.refl _ _) 1)).alloc B9.out.size o
  clear z12 z13 z14 z15 z16 z17 z18 z19 z20 z21 z22 z23 z24 z25 z26 z27 i12 i13 i14 i15 i16 i17 i18 i19 i20 i21 i22 i23 i24 i25 i26 i27 n12 n16 n20 n24 c6 c7 c8 c9 c11 X9
  simp only [List.append_eq, List.cons_append, List.nil_append]
  refine wp_region_any (by as_aux_lemma => kernel_rfl) ?_
  change wpAny _ _ _ _ _ _ _ (World.drew _)
  refine wpAny_take (i := 0) (v := .string S) rfl (by as_aux_lemma => kernel_rfl) (by as_aux_lemma => kernel_rfl) (by as_aux_lemma => kernel_rfl) (fun _ _ _ h => h) (Or.inl ⟨by as_aux_lemma => kernel_rfl, ?_⟩) ?_
  · intro w; go_simp
  refine wpAny_take (i := 1) (v := .int .u8 (bt S 0)) rfl (by as_aux_lemma => kernel_rfl) (by as_aux_lemma => kernel_rfl) (by as_aux_lemma => kernel_rfl) (fun _ _ _ h => h) (Or.inl ⟨by as_aux_lemma => kernel_rfl, ?_⟩) ?_
  · intro w; go_simp
  refine wpAny_take (i := 2) (v := .int .i64 (bt S 0)) rfl (by as_aux_lemma => kernel_rfl) (by as_aux_lemma => kernel_rfl) (by as_aux_lemma => kernel_rfl) (fun _ _ _ h => h) (Or.inl ⟨by as_aux_lemma => kernel_rfl, ?_⟩) ?_
  · intro w; go_simp
  refine wpAny_take (i := 3) (v := .pointer (some ⟨w.heap.size, 0, none⟩)) rfl (by as_aux_lemma => kernel_rfl) (by as_aux_lemma => kernel_rfl) (by as_aux_lemma => kernel_rfl) (fun _ _ _ h => h) (Or.inl ⟨by as_aux_lemma => kernel_rfl, ?_⟩) ?_
  · intro w; go_simp
  refine wpAny_ready (rs := [4]) (by as_aux_lemma => kernel_rfl) (by simp) ?_
  refine AllReady.cons rfl (fun K hK => ?_) AllReady.nil
  go_simp
  refine hK _ _ ?_
  clear hK K
  refine wpAny_take (i := 5) (v := .bool true) rfl (by as_aux_lemma => kernel_rfl) (by as_aux_lemma => kernel_rfl) (by as_aux_lemma => kernel_rfl) (fun _ _ _ h => h) (Or.inl ⟨by as_aux_lemma => kernel_rfl, ?_⟩) ?_
  · intro w; go_simp
  refine wpAny_take (i := 6) (v := .bool true) rfl (by as_aux_lemma => kernel_rfl) (by as_aux_lemma => kernel_rfl) (by as_aux_lemma => kernel_rfl) (fun _ _ _ h => h) (Or.inl ⟨by as_aux_lemma => kernel_rfl, ?_⟩) ?_
  · intro w; go_simp
  refine wpAny_take (i := 7) (v := .string S) rfl (by as_aux_lemma => kernel_rfl) (by as_aux_lemma => kernel_rfl) (by as_aux_lemma => kernel_rfl) (fun _ _ _ h => h) (Or.inl ⟨by as_aux_lemma => kernel_rfl, ?_⟩) ?_
  · intro w; go_simp
  refine wpAny_take (i := 8) (v := .int .u8 (bt S 1)) rfl (by as_aux_lemma => kernel_rfl) (by as_aux_lemma => kernel_rfl) (by as_aux_lemma => kernel_rfl) (fun _ _ _ h => h) (Or.inl ⟨by as_aux_lemma => kernel_rfl, ?_⟩) ?_
  · intro w; go_simp
  refine wpAny_take (i := 9) (v := .int .i64 (bt S 1)) rfl (by as_aux_lemma => kernel_rfl) (by as_aux_lemma => kernel_rfl) (by as_aux_lemma => kernel_rfl) (fun _ _ _ h => h) (Or.inl ⟨by as_aux_lemma => kernel_rfl, ?_⟩) ?_
  · intro w; go_simp
  refine wpAny_take (i := 10) (v := .pointer (some ⟨w.heap.size, 1, none⟩)) rfl (by as_aux_lemma => kernel_rfl) (by as_aux_lemma => kernel_rfl) (by as_aux_lemma => kernel_rfl) (fun _ _ _ h => h) (Or.inl ⟨by as_aux_lemma => kernel_rfl, ?_⟩) ?_
  · intro w; go_simp
  refine wpAny_ready (rs := [11]) (by as_aux_lemma => kernel_rfl) (by simp) ?_
  refine AllReady.cons rfl (fun K hK => ?_) AllReady.nil
  go_simp
  refine hK _ _ ?_
  clear hK K
  refine wpAny_take (i := 12) (v := .bool true) rfl (by as_aux_lemma => kernel_rfl) (by as_aux_lemma => kernel_rfl) (by as_aux_lemma => kernel_rfl) (fun _ _ _ h => h) (Or.inl ⟨by as_aux_lemma => kernel_rfl, ?_⟩) ?_
  · intro w; go_simp
  refine wpAny_take (i := 13) (v := .bool true) rfl (by as_aux_lemma => kernel_rfl) (by as_aux_lemma => kernel_rfl) (by as_aux_lemma => kernel_rfl) (fun _ _ _ h => h) (Or.inl ⟨by as_aux_lemma => kernel_rfl, ?_⟩) ?_
  · intro w; go_simp
  refine wpAny_take (i := 14) (v := .bool true) rfl (by as_aux_lemma => kernel_rfl) (by as_aux_lemma => kernel_rfl) (by as_aux_lemma => kernel_rfl) (fun _ _ _ h => h) (Or.inl ⟨by as_aux_lemma => kernel_rfl, ?_⟩) ?_
  · intro w; go_simp
  refine wpAny_take (i := 15) (v := .string S) rfl (by as_aux_lemma => kernel_rfl) (by as_aux_lemma => kernel_rfl) (by as_aux_lemma => kernel_rfl) (fun _ _ _ h => h) (Or.inl ⟨by as_aux_lemma => kernel_rfl, ?_⟩) ?_
  · intro w; go_simp
  refine wpAny_take (i := 16) (v := .int .u8 (bt S 2)) rfl (by as_aux_lemma => kernel_rfl) (by as_aux_lemma => kernel_rfl) (by as_aux_lemma => kernel_rfl) (fun _ _ _ h => h) (Or.inl ⟨by as_aux_lemma => kernel_rfl, ?_⟩) ?_
  · intro w; go_simp
  refine wpAny_take (i := 17) (v := .int .i64 (bt S 2)) rfl (by as_aux_lemma => kernel_rfl) (by as_aux_lemma => kernel_rfl) (by as_aux_lemma => kernel_rfl) (fun _ _ _ h => h) (Or.inl ⟨by as_aux_lemma => kernel_rfl, ?_⟩) ?_
  · intro w; go_simp
  refine wpAny_take (i := 18) (v := .pointer (some ⟨w.heap.size, 10, none⟩)) rfl (by as_aux_lemma => kernel_rfl) (by as_aux_lemma => kernel_rfl) (by as_aux_lemma => kernel_rfl) (fun _ _ _ h => h) (Or.inl ⟨by as_aux_lemma => kernel_rfl, ?_⟩) ?_
  · intro w; go_simp
  refine wpAny_ready (rs := [19]) (by as_aux_lemma => kernel_rfl) (by simp) ?_
  refine AllReady.cons rfl (fun K hK => ?_) AllReady.nil
  go_simp
  refine hK _ _ ?_
  clear hK K
  refine wpAny_take (i := 20) (v := .int .i64 (p.ch.size : Int)) rfl (by as_aux_lemma => kernel_rfl) (by as_aux_lemma => kernel_rfl) (by as_aux_lemma => kernel_rfl) (fun _ _ _ h => h) (Or.inl ⟨by as_aux_lemma => kernel_rfl, ?_⟩) ?_
  · intro w; go_simp
  refine wpAny_take (i := 21) (v := .bool true) rfl (by as_aux_lemma => kernel_rfl) (by as_aux_lemma => kernel_rfl) (by as_aux_lemma => kernel_rfl) (fun _ _ _ h => h) (Or.inl ⟨by as_aux_lemma => kernel_rfl, ?_⟩) ?_
  · intro w; go_simp
  refine wpAny_take (i := 22) (v := .bool true) rfl (by as_aux_lemma => kernel_rfl) (by as_aux_lemma => kernel_rfl) (by as_aux_lemma => kernel_rfl) (fun _ _ _ h => h) (Or.inl ⟨by as_aux_lemma => kernel_rfl, ?_⟩) ?_
  · intro w; go_simp
  refine wpAny_take (i := 23) (v := .bool true) rfl (by as_aux_lemma => kernel_rfl) (by as_aux_lemma => kernel_rfl) (by as_aux_lemma => kernel_rfl) (fun _ _ _ h => h) (Or.inl ⟨by as_aux_lemma => kernel_rfl, ?_⟩) ?_
  · intro w; go_simp
  refine wpAny_take (i := 24) (v := .string S) rfl (by as_aux_lemma => kernel_rfl) (by as_aux_lemma => kernel_rfl) (by as_aux_lemma => kernel_rfl) (fun _ _ _ h => h) (Or.inl ⟨by as_aux_lemma => kernel_rfl, ?_⟩) ?_
  · intro w; go_simp
  refine wpAny_take (i := 25) (v := .int .u8 (bt S 3)) rfl (by as_aux_lemma => kernel_rfl) (by as_aux_lemma => kernel_rfl) (by as_aux_lemma => kernel_rfl) (fun _ _ _ h => h) (Or.inl ⟨by as_aux_lemma => kernel_rfl, ?_⟩) ?_
  · intro w; go_simp
  refine wpAny_take (i := 26) (v := .int .i64 (bt S 3)) rfl (by as_aux_lemma => kernel_rfl) (by as_aux_lemma => kernel_rfl) (by as_aux_lemma => kernel_rfl) (fun _ _ _ h => h) (Or.inl ⟨by as_aux_lemma => kernel_rfl, ?_⟩) ?_
  · intro w; go_simp
  refine wpAny_take (i := 27) (v := .pointer (some ⟨w.heap.size, 2, none⟩)) rfl (by as_aux_lemma => kernel_rfl) (by as_aux_lemma => kernel_rfl) (by as_aux_lemma => kernel_rfl) (fun _ _ _ h => h) (Or.inl ⟨by as_aux_lemma => kernel_rfl, ?_⟩) ?_
  · intro w; go_simp
  refine wpAny_ready (rs := [28]) (by as_aux_lemma => kernel_rfl) (by simp) ?_
  refine AllReady.cons rfl (fun K hK => ?_) AllReady.nil
  go_simp
  refine hK _ _ ?_
  clear hK K
  refine wpAny_take (i := 29) (v := .bool true) rfl (by as_aux_lemma => kernel_rfl) (by as_aux_lemma => kernel_rfl) (by as_aux_lemma => kernel_rfl) (fun _ _ _ h => h) (Or.inl ⟨by as_aux_lemma => kernel_rfl, ?_⟩) ?_
  · intro w; go_simp
  refine wpAny_take (i := 30) (v := .bool true) rfl (by as_aux_lemma => kernel_rfl) (by as_aux_lemma => kernel_rfl) (by as_aux_lemma => kernel_rfl) (fun _ _ _ h => h) (Or.inl ⟨by as_aux_lemma => kernel_rfl, ?_⟩) ?_
  · intro w; go_simp
  refine wpAny_take (i := 31) (v := .bool true) rfl (by as_aux_lemma => kernel_rfl) (by as_aux_lemma => kernel_rfl) (by as_aux_lemma => kernel_rfl) (fun _ _ _ h => h) (Or.inl ⟨by as_aux_lemma => kernel_rfl, ?_⟩) ?_
  · intro w; go_simp
  refine wpAny_take (i := 32) (v := .string S) rfl (by as_aux_lemma => kernel_rfl) (by as_aux_lemma => kernel_rfl) (by as_aux_lemma => kernel_rfl) (fun _ _ _ h => h) (Or.inl ⟨by as_aux_lemma => kernel_rfl, ?_⟩) ?_
  · intro w; go_simp
  refine wpAny_take (i := 33) (v := .int .u8 (bt S 4)) rfl (by as_aux_lemma => kernel_rfl) (by as_aux_lemma => kernel_rfl) (by as_aux_lemma => kernel_rfl) (fun _ _ _ h => h) (Or.inl ⟨by as_aux_lemma => kernel_rfl, ?_⟩) ?_
  · intro w; go_simp
  refine wpAny_take (i := 34) (v := .int .i64 (bt S 4)) rfl (by as_aux_lemma => kernel_rfl) (by as_aux_lemma => kernel_rfl) (by as_aux_lemma => kernel_rfl) (fun _ _ _ h => h) (Or.inl ⟨by as_aux_lemma => kernel_rfl, ?_⟩) ?_
  · intro w; go_simp
  refine wpAny_take (i := 35) (v := .int .i64 (bt S 4 * 16777216)) rfl (by as_aux_lemma => kernel_rfl) (by as_aux_lemma => kernel_rfl) (by as_aux_lemma => kernel_rfl) (fun _ _ _ h => h) (Or.inl ⟨by as_aux_lemma => kernel_rfl, ?_⟩) ?_
  · intro w; go_simp
  refine wpAny_take (i := 36) (v := .string S) rfl (by as_aux_lemma => kernel_rfl) (by as_aux_lemma => kernel_rfl) (by as_aux_lemma => kernel_rfl) (fun _ _ _ h => h) (Or.inl ⟨by as_aux_lemma => kernel_rfl, ?_⟩) ?_
  · intro w; go_simp
  refine wpAny_take (i := 37) (v := .int .u8 (bt S 5)) rfl (by as_aux_lemma => kernel_rfl) (by as_aux_lemma => kernel_rfl) (by as_aux_lemma => kernel_rfl) (fun _ _ _ h => h) (Or.inl ⟨by as_aux_lemma => kernel_rfl, ?_⟩) ?_
  · intro w; go_simp
  refine wpAny_take (i := 38) (v := .int .i64 (bt S 5)) rfl (by as_aux_lemma => kernel_rfl) (by as_aux_lemma => kernel_rfl) (by as_aux_lemma => kernel_rfl) (fun _ _ _ h => h) (Or.inl ⟨by as_aux_lemma => kernel_rfl, ?_⟩) ?_
  · intro w; go_simp
  refine wpAny_take (i := 39) (v := .int .i64 (bt S 5 * 65536)) rfl (by as_aux_lemma => kernel_rfl) (by as_aux_lemma => kernel_rfl) (by as_aux_lemma => kernel_rfl) (fun _ _ _ h => h) (Or.inl ⟨by as_aux_lemma => kernel_rfl, ?_⟩) ?_
  · intro w; go_simp
  refine wpAny_take (i := 40) (v := .int .i64 (bits .or .i64 (bt S 4 * 16777216) (bt S 5 * 65536))) rfl (by as_aux_lemma => kernel_rfl) (by as_aux_lemma => kernel_rfl) (by as_aux_lemma => kernel_rfl) (fun _ _ _ h => h) (Or.inl ⟨by as_aux_lemma => kernel_rfl, ?_⟩) ?_
  · intro w; go_simp
  refine wpAny_take (i := 41) (v := .string S) rfl (by as_aux_lemma => kernel_rfl) (by as_aux_lemma => kernel_rfl) (by as_aux_lemma => kernel_rfl) (fun _ _ _ h => h) (Or.inl ⟨by as_aux_lemma => kernel_rfl, ?_⟩) ?_
  · intro w; go_simp
  refine wpAny_take (i := 42) (v := .int .u8 (bt S 6)) rfl (by as_aux_lemma => kernel_rfl) (by as_aux_lemma => kernel_rfl) (by as_aux_lemma => kernel_rfl) (fun _ _ _ h => h) (Or.inl ⟨by as_aux_lemma => kernel_rfl, ?_⟩) ?_
  · intro w; go_simp
  refine wpAny_take (i := 43) (v := .int .i64 (bt S 6)) rfl (by as_aux_lemma => kernel_rfl) (by as_aux_lemma => kernel_rfl) (by as_aux_lemma => kernel_rfl) (fun _ _ _ h => h) (Or.inl ⟨by as_aux_lemma => kernel_rfl, ?_⟩) ?_
  · intro w; go_simp
  refine wpAny_take (i := 44) (v := .int .i64 (bt S 6 * 256)) rfl (by as_aux_lemma => kernel_rfl) (by as_aux_lemma => kernel_rfl) (by as_aux_lemma => kernel_rfl) (fun _ _ _ h => h) (Or.inl ⟨by as_aux_lemma => kernel_rfl, ?_⟩) ?_
  · intro w; go_simp
  refine wpAny_take (i := 45) (v := .int .i64 (bits .or .i64 (bits .or .i64 (bt S 4 * 16777216) (bt S 5 * 65536)) (bt S 6 * 256))) rfl (by as_aux_lemma => kernel_rfl) (by as_aux_lemma => kernel_rfl) (by as_aux_lemma => kernel_rfl) (fun _ _ _ h => h) (Or.inl ⟨by as_aux_lemma => kernel_rfl, ?_⟩) ?_
  · intro w; go_simp
  refine wpAny_take (i := 46) (v := .string S) rfl (by as_aux_lemma => kernel_rfl) (by as_aux_lemma => kernel_rfl) (by as_aux_lemma => kernel_rfl) (fun _ _ _ h => h) (Or.inl ⟨by as_aux_lemma => kernel_rfl, ?_⟩) ?_
  · intro w; go_simp
  refine wpAny_take (i := 47) (v := .int .u8 (bt S 7)) rfl (by as_aux_lemma => kernel_rfl) (by as_aux_lemma => kernel_rfl) (by as_aux_lemma => kernel_rfl) (fun _ _ _ h => h) (Or.inl ⟨by as_aux_lemma => kernel_rfl, ?_⟩) ?_
  · intro w; go_simp
  refine wpAny_take (i := 48) (v := .int .i64 (bt S 7)) rfl (by as_aux_lemma => kernel_rfl) (by as_aux_lemma => kernel_rfl) (by as_aux_lemma => kernel_rfl) (fun _ _ _ h => h) (Or.inl ⟨by as_aux_lemma => kernel_rfl, ?_⟩) ?_
  · intro w; go_simp
  refine wpAny_take (i := 49) (v := .int .i64 (bits .or .i64 (bits .or .i64 (bits .or .i64 (bt S 4 * 16777216) (bt S 5 * 65536)) (bt S 6 * 256)) (bt S 7))) rfl (by as_aux_lemma => kernel_rfl) (by as_aux_lemma => kernel_rfl) (by as_aux_lemma => kernel_rfl) (fun _ _ _ h => h) (Or.inl ⟨by as_aux_lemma => kernel_rfl, ?_⟩) ?_
  · intro w; go_simp
  refine wpAny_take (i := 50) (v := .pointer (some ⟨w.heap.size, 3, none⟩)) rfl (by as_aux_lemma => kernel_rfl) (by as_aux_lemma => kernel_rfl) (by as_aux_lemma => kernel_rfl) (fun _ _ _ h => h) (Or.inl ⟨by as_aux_lemma => kernel_rfl, ?_⟩) ?_
  · intro w; go_simp
  refine wpAny_ready (rs := [51]) (by as_aux_lemma => kernel_rfl) (by simp) ?_
  refine AllReady.cons rfl (fun K hK => ?_) AllReady.nil
  go_simp
  refine hK _ _ ?_
  clear hK K
  refine wpAny_take (i := 52) (v := .bool true) rfl (by as_aux_lemma => kernel_rfl) (by as_aux_lemma => kernel_rfl) (by as_aux_lemma => kernel_rfl) (fun _ _ _ h => h) (Or.inl ⟨by as_aux_lemma => kernel_rfl, ?_⟩) ?_
  · intro w; go_simp
  refine wpAny_take (i := 53) (v := .bool true) rfl (by as_aux_lemma => kernel_rfl) (by as_aux_lemma => kernel_rfl) (by as_aux_lemma => kernel_rfl) (fun _ _ _ h => h) (Or.inl ⟨by as_aux_lemma => kernel_rfl, ?_⟩) ?_
  · intro w; go_simp
  refine wpAny_take (i := 54) (v := .bool true) rfl (by as_aux_lemma => kernel_rfl) (by as_aux_lemma => kernel_rfl) (by as_aux_lemma => kernel_rfl) (fun _ _ _ h => h) (Or.inl ⟨by as_aux_lemma => kernel_rfl, ?_⟩) ?_
  · intro w; go_simp
  refine wpAny_take (i := 55) (v := .string S) rfl (by as_aux_lemma => kernel_rfl) (by as_aux_lemma => kernel_rfl) (by as_aux_lemma => kernel_rfl) (fun _ _ _ h => h) (Or.inl ⟨by as_aux_lemma => kernel_rfl, ?_⟩) ?_
  · intro w; go_simp
  refine wpAny_take (i := 56) (v := .int .u8 (bt S 8)) rfl (by as_aux_lemma => kernel_rfl) (by as_aux_lemma => kernel_rfl) (by as_aux_lemma => kernel_rfl) (fun _ _ _ h => h) (Or.inl ⟨by as_aux_lemma => kernel_rfl, ?_⟩) ?_
  · intro w; go_simp
  refine wpAny_take (i := 57) (v := .int .i64 (bt S 8)) rfl (by as_aux_lemma => kernel_rfl) (by as_aux_lemma => kernel_rfl) (by as_aux_lemma => kernel_rfl) (fun _ _ _ h => h) (Or.inl ⟨by as_aux_lemma => kernel_rfl, ?_⟩) ?_
  · intro w; go_simp
  refine wpAny_take (i := 58) (v := .int .i64 (bt S 8 * 256)) rfl (by as_aux_lemma => kernel_rfl) (by as_aux_lemma => kernel_rfl) (by as_aux_lemma => kernel_rfl) (fun _ _ _ h => h) (Or.inl ⟨by as_aux_lemma => kernel_rfl, ?_⟩) ?_
  · intro w; go_simp
  refine wpAny_take (i := 59) (v := .string S) rfl (by as_aux_lemma => kernel_rfl) (by as_aux_lemma => kernel_rfl) (by as_aux_lemma => kernel_rfl) (fun _ _ _ h => h) (Or.inl ⟨by as_aux_lemma => kernel_rfl, ?_⟩) ?_
  · intro w; go_simp
  refine wpAny_take (i := 60) (v := .int .u8 (bt S 9)) rfl (by as_aux_lemma => kernel_rfl) (by as_aux_lemma => kernel_rfl) (by as_aux_lemma => kernel_rfl) (fun _ _ _ h => h) (Or.inl ⟨by as_aux_lemma => kernel_rfl, ?_⟩) ?_
  · intro w; go_simp
  refine wpAny_take (i := 61) (v := .int .i64 (bt S 9)) rfl (by as_aux_lemma => kernel_rfl) (by as_aux_lemma => kernel_rfl) (by as_aux_lemma => kernel_rfl) (fun _ _ _ h => h) (Or.inl ⟨by as_aux_lemma => kernel_rfl, ?_⟩) ?_
  · intro w; go_simp
  refine wpAny_take (i := 62) (v := .int .i64 (bits .or .i64 (bt S 8 * 256) (bt S 9))) rfl (by as_aux_lemma => kernel_rfl) (by as_aux_lemma => kernel_rfl) (by as_aux_lemma => kernel_rfl) (fun _ _ _ h => h) (Or.inl ⟨by as_aux_lemma => kernel_rfl, ?_⟩) ?_
  · intro w; go_simp
  refine wpAny_take (i := 63) (v := .pointer (some ⟨w.heap.size, 4, none⟩)) rfl (by as_aux_lemma => kernel_rfl) (by as_aux_lemma => kernel_rfl) (by as_aux_lemma => kernel_rfl) (fun _ _ _ h => h) (Or.inl ⟨by as_aux_lemma => kernel_rfl, ?_⟩) ?_
  · intro w; go_simp
  refine wpAny_ready (rs := [64]) (by as_aux_lemma => kernel_rfl) (by simp) ?_
  refine AllReady.cons rfl (fun K hK => ?_) AllReady.nil
  go_simp
  refine hK _ _ ?_
  clear hK K
  refine wpAny_take (i := 65) (v := .bool true) rfl (by as_aux_lemma => kernel_rfl) (by as_aux_lemma => kernel_rfl) (by as_aux_lemma => kernel_rfl) (fun _ _ _ h => h) (Or.inl ⟨by as_aux_lemma => kernel_rfl, ?_⟩) ?_
  · intro w; go_simp
  refine wpAny_take (i := 66) (v := .bool true) rfl (by as_aux_lemma => kernel_rfl) (by as_aux_lemma => kernel_rfl) (by as_aux_lemma => kernel_rfl) (fun _ _ _ h => h) (Or.inl ⟨by as_aux_lemma => kernel_rfl, ?_⟩) ?_
  · intro w; go_simp
  refine wpAny_take (i := 67) (v := .bool true) rfl (by as_aux_lemma => kernel_rfl) (by as_aux_lemma => kernel_rfl) (by as_aux_lemma => kernel_rfl) (fun _ _ _ h => h) (Or.inl ⟨by as_aux_lemma => kernel_rfl, ?_⟩) ?_
  · intro w; go_simp
  refine wpAny_take (i := 68) (v := .string S) rfl (by as_aux_lemma => kernel_rfl) (by as_aux_lemma => kernel_rfl) (by as_aux_lemma => kernel_rfl) (fun _ _ _ h => h) (Or.inl ⟨by as_aux_lemma => kernel_rfl, ?_⟩) ?_
  · intro w; go_simp
  refine wpAny_take (i := 69) (v := .int .u8 (bt S 10)) rfl (by as_aux_lemma => kernel_rfl) (by as_aux_lemma => kernel_rfl) (by as_aux_lemma => kernel_rfl) (fun _ _ _ h => h) (Or.inl ⟨by as_aux_lemma => kernel_rfl, ?_⟩) ?_
  · intro w; go_simp
  refine wpAny_take (i := 70) (v := .int .i64 (bt S 10)) rfl (by as_aux_lemma => kernel_rfl) (by as_aux_lemma => kernel_rfl) (by as_aux_lemma => kernel_rfl) (fun _ _ _ h => h) (Or.inl ⟨by as_aux_lemma => kernel_rfl, ?_⟩) ?_
  · intro w; go_simp
  refine wpAny_take (i := 71) (v := .int .i64 (bt S 10 * 256)) rfl (by as_aux_lemma => kernel_rfl) (by as_aux_lemma => kernel_rfl) (by as_aux_lemma => kernel_rfl) (fun _ _ _ h => h) (Or.inl ⟨by as_aux_lemma => kernel_rfl, ?_⟩) ?_
  · intro w; go_simp
  refine wpAny_take (i := 72) (v := .string S) rfl (by as_aux_lemma => kernel_rfl) (by as_aux_lemma => kernel_rfl) (by as_aux_lemma => kernel_rfl) (fun _ _ _ h => h) (Or.inl ⟨by as_aux_lemma => kernel_rfl, ?_⟩) ?_
  · intro w; go_simp
  refine wpAny_take (i := 73) (v := .int .u8 (bt S 11)) rfl (by as_aux_lemma => kernel_rfl) (by as_aux_lemma => kernel_rfl) (by as_aux_lemma => kernel_rfl) (fun _ _ _ h => h) (Or.inl ⟨by as_aux_lemma => kernel_rfl, ?_⟩) ?_
  · intro w; go_simp
  refine wpAny_take (i := 74) (v := .int .i64 (bt S 11)) rfl (by as_aux_lemma => kernel_rfl) (by as_aux_lemma => kernel_rfl) (by as_aux_lemma => kernel_rfl) (fun _ _ _ h => h) (Or.inl ⟨by as_aux_lemma => kernel_rfl, ?_⟩) ?_
  · intro w; go_simp
  refine wpAny_take (i := 75) (v := .int .i64 (bits .or .i64 (bt S 10 * 256) (bt S 11))) rfl (by as_aux_lemma => kernel_rfl) (by as_aux_lemma => kernel_rfl) (by as_aux_lemma => kernel_rfl) (fun _ _ _ h => h) (Or.inl ⟨by as_aux_lemma => kernel_rfl, ?_⟩) ?_
  · intro w; go_simp
  refine wpAny_take (i := 76) (v := .pointer (some ⟨w.heap.size, 5, none⟩)) rfl (by as_aux_lemma => kernel_rfl) (by as_aux_lemma => kernel_rfl) (by as_aux_lemma => kernel_rfl) (fun _ _ _ h => h) (Or.inl ⟨by as_aux_lemma => kernel_rfl, ?_⟩) ?_
  · intro w; go_simp
  refine wpAny_ready (rs := [77]) (by as_aux_lemma => kernel_rfl) (by simp) ?_
  refine AllReady.cons rfl (fun K hK => ?_) AllReady.nil
  go_simp
  refine hK _ _ ?_
  clear hK K
  refine wpAny_take (i := 78) (v := .bool true) rfl (by as_aux_lemma => kernel_rfl) (by as_aux_lemma => kernel_rfl) (by as_aux_lemma => kernel_rfl) (fun _ _ _ h => h) (Or.inl ⟨by as_aux_lemma => kernel_rfl, ?_⟩) ?_
  · intro w; go_simp
  refine wpAny_take (i := 79) (v := .bool true) rfl (by as_aux_lemma => kernel_rfl) (by as_aux_lemma => kernel_rfl) (by as_aux_lemma => kernel_rfl) (fun _ _ _ h => h) (Or.inl ⟨by as_aux_lemma => kernel_rfl, ?_⟩) ?_
  · intro w; go_simp
  refine wpAny_take (i := 80) (v := .bool true) rfl (by as_aux_lemma => kernel_rfl) (by as_aux_lemma => kernel_rfl) (by as_aux_lemma => kernel_rfl) (fun _ _ _ h => h) (Or.inl ⟨by as_aux_lemma => kernel_rfl, ?_⟩) ?_
  · intro w; go_simp
  refine wpAny_take (i := 81) (v := .string S) rfl (by as_aux_lemma => kernel_rfl) (by as_aux_lemma => kernel_rfl) (by as_aux_lemma => kernel_rfl) (fun _ _ _ h => h) (Or.inl ⟨by as_aux_lemma => kernel_rfl, ?_⟩) ?_
  · intro w; go_simp
  refine wpAny_take (i := 82) (v := .pointer (some ⟨w.heap.size, 10, none⟩)) rfl (by as_aux_lemma => kernel_rfl) (by as_aux_lemma => kernel_rfl) (by as_aux_lemma => kernel_rfl) (fun _ _ _ h => h) (Or.inl ⟨by as_aux_lemma => kernel_rfl, ?_⟩) ?_
  · intro w; go_simp
  refine wpAny_take (i := 87) (v := .pointer (some ⟨w.heap.size, 10, none⟩)) rfl (by as_aux_lemma => kernel_rfl) (by as_aux_lemma => kernel_rfl) (by as_aux_lemma => kernel_rfl) (fun _ _ _ h => h) (Or.inl ⟨by as_aux_lemma => kernel_rfl, ?_⟩) ?_
  · intro w; go_simp
  refine wpAny_ready (rs := [83, 88]) (by as_aux_lemma => kernel_rfl) (by simp) ?_
  refine AllReady.cons rfl (fun K hK => ?_) (AllReady.cons rfl (fun K hK => ?_) AllReady.nil)
  · go_simp
    refine hK _ _ ?_
    clear hK K
    refine wpAny_take (i := 84) (v := .int .i64 (p.ch.size : Int)) rfl (by as_aux_lemma => kernel_rfl) (by as_aux_lemma => kernel_rfl) (by as_aux_lemma => kernel_rfl) (fun _ _ _ h => h) (Or.inl ⟨by as_aux_lemma => kernel_rfl, ?_⟩) ?_
    · intro w; go_simp
    refine wpAny_take (i := 85) (v := .int .i64 (28 + (p.ch.size : Int))) rfl (by as_aux_lemma => kernel_rfl) (by as_aux_lemma => kernel_rfl) (by as_aux_lemma => kernel_rfl) (fun _ _ _ h => h) (Or.inl ⟨by as_aux_lemma => kernel_rfl, ?_⟩) ?_
    · intro w; go_simp
    refine wpAny_take (i := 86) (v := .string p.ch) rfl (by as_aux_lemma => kernel_rfl) (by as_aux_lemma => kernel_rfl) (by as_aux_lemma => kernel_rfl) (fun _ _ _ h => h) (Or.inl ⟨by as_aux_lemma => kernel_rfl, ?_⟩) ?_
    · intro w; go_simp
    refine wpAny_ready (rs := [88]) (by as_aux_lemma => kernel_rfl) (by simp) ?_
    refine AllReady.cons rfl (fun K hK => ?_) AllReady.nil
    go_simp
    refine hK _ _ ?_
    clear hK K
    refine wpAny_take (i := 89) (v := .bool true) rfl (by as_aux_lemma => kernel_rfl) (by as_aux_lemma => kernel_rfl) (by as_aux_lemma => kernel_rfl) (fun _ _ _ h => h) (Or.inl ⟨by as_aux_lemma => kernel_rfl, ?_⟩) ?_
    · intro w; go_simp
    refine wpAny_take (i := 90) (v := .bool true) rfl (by as_aux_lemma => kernel_rfl) (by as_aux_lemma => kernel_rfl) (by as_aux_lemma => kernel_rfl) (fun _ _ _ h => h) (Or.inl ⟨by as_aux_lemma => kernel_rfl, ?_⟩) ?_
    · intro w; go_simp
    refine wpAny_take (i := 91) (v := .bool true) rfl (by as_aux_lemma => kernel_rfl) (by as_aux_lemma => kernel_rfl) (by as_aux_lemma => kernel_rfl) (fun _ _ _ h => h) (Or.inl ⟨by as_aux_lemma => kernel_rfl, ?_⟩) ?_
    · intro w; go_simp
    refine wpAny_take (i := 92) (v := .string S) rfl (by as_aux_lemma => kernel_rfl) (by as_aux_lemma => kernel_rfl) (by as_aux_lemma => kernel_rfl) (fun _ _ _ h => h) (Or.inl ⟨by as_aux_lemma => kernel_rfl, ?_⟩) ?_
    · intro w; go_simp
    refine wpAny_take (i := 93) (v := .string Z) rfl (by as_aux_lemma => kernel_rfl) (by as_aux_lemma => kernel_rfl) (by as_aux_lemma => kernel_rfl) (fun _ _ _ h => h) (Or.inl ⟨by as_aux_lemma => kernel_rfl, ?_⟩) ?_
    · intro w; go_simp
    refine wpAny_ready (rs := [94]) (by as_aux_lemma => kernel_rfl) (by simp) ?_
    refine AllReady.cons rfl (fun K hK => ?_) AllReady.nil
    go_simp
    refine hK _ _ ?_
    clear hK K
    refine wpAny_ready (rs := [95]) (by as_aux_lemma => kernel_rfl) (by simp) ?_
    refine AllReady.cons rfl (fun K hK => ?_) AllReady.nil
    go_simp
    refine hK _ _ ?_
    clear hK K
    refine wpAny_take (i := 96) (v := .bool true) rfl (by as_aux_lemma => kernel_rfl) (by as_aux_lemma => kernel_rfl) (by as_aux_lemma => kernel_rfl) (fun _ _ _ h => h) (Or.inl ⟨by as_aux_lemma => kernel_rfl, ?_⟩) ?_
    · intro w; go_simp
    refine wpAny_take (i := 97) (v := .bool true) rfl (by as_aux_lemma => kernel_rfl) (by as_aux_lemma => kernel_rfl) (by as_aux_lemma => kernel_rfl) (fun _ _ _ h => h) (Or.inl ⟨by as_aux_lemma => kernel_rfl, ?_⟩) ?_
    · intro w; go_simp
    refine wpAny_take (i := 98) (v := .bool true) rfl (by as_aux_lemma => kernel_rfl) (by as_aux_lemma => kernel_rfl) (by as_aux_lemma => kernel_rfl) (fun _ _ _ h => h) (Or.inl ⟨by as_aux_lemma => kernel_rfl, ?_⟩) ?_
    · intro w; go_simp
    refine wpAny_done (by as_aux_lemma => kernel_rfl) ?_ _
    have B10 := HB.out (.cells cs 5)
    go_wp2
    go_ret
    exact ⟨rfl, B10⟩
  · go_simp
    refine hK _ _ ?_
    clear hK K
    refine wpAny_ready (rs := [83]) (by as_aux_lemma => kernel_rfl) (by simp) ?_
    refine AllReady.cons rfl (fun K hK => ?_) AllReady.nil
    go_simp
    refine hK _ _ ?_
    clear hK K
    refine wpAny_take (i := 84) (v := .int .i64 (p.ch.size : Int)) rfl (by as_aux_lemma => kernel_rfl) (by as_aux_lemma => kernel_rfl) (by as_aux_lemma => kernel_rfl) (fun _ _ _ h => h) (Or.inl ⟨by as_aux_lemma => kernel_rfl, ?_⟩) ?_
    · intro w; go_simp
    refine wpAny_take (i := 85) (v := .int .i64 (28 + (p.ch.size : Int))) rfl (by as_aux_lemma => kernel_rfl) (by as_aux_lemma => kernel_rfl) (by as_aux_lemma => kernel_rfl) (fun _ _ _ h => h) (Or.inl ⟨by as_aux_lemma => kernel_rfl, ?_⟩) ?_
    · intro w; go_simp
    refine wpAny_take (i := 86) (v := .string p.ch) rfl (by as_aux_lemma => kernel_rfl) (by as_aux_lemma => kernel_rfl) (by as_aux_lemma => kernel_rfl) (fun _ _ _ h => h) (Or.inl ⟨by as_aux_lemma => kernel_rfl, ?_⟩) ?_
    · intro w; go_simp
    refine wpAny_take (i := 89) (v := .bool true) rfl (by as_aux_lemma => kernel_rfl) (by as_aux_lemma => kernel_rfl) (by as_aux_lemma => kernel_rfl) (fun _ _ _ h => h) (Or.inl ⟨by as_aux_lemma => kernel_rfl, ?_⟩) ?_
    · intro w; go_simp
    refine wpAny_take (i := 90) (v := .bool true) rfl (by as_aux_lemma => kernel_rfl) (by as_aux_lemma => kernel_rfl) (by as_aux_lemma => kernel_rfl) (fun _ _ _ h => h) (Or.inl ⟨by as_aux_lemma => kernel_rfl, ?_⟩) ?_
    · intro w; go_simp
    refine wpAny_take (i := 91) (v := .bool true) rfl (by as_aux_lemma => kernel_rfl) (by as_aux_lemma => kernel_rfl) (by as_aux_lemma => kernel_rfl) (fun _ _ _ h => h) (Or.inl ⟨by as_aux_lemma => kernel_rfl, ?_⟩) ?_
    · intro w; go_simp
    refine wpAny_take (i := 92) (v := .string S) rfl (by as_aux_lemma => kernel_rfl) (by as_aux_lemma => kernel_rfl) (by as_aux_lemma => kernel_rfl) (fun _ _ _ h => h) (Or.inl ⟨by as_aux_lemma => kernel_rfl, ?_⟩) ?_
    · intro w; go_simp
    refine wpAny_take (i := 93) (v := .string Z) rfl (by as_aux_lemma => kernel_rfl) (by as_aux_lemma => kernel_rfl) (by as_aux_lemma => kernel_rfl) (fun _ _ _ h => h) (Or.inl ⟨by as_aux_lemma => kernel_rfl, ?_⟩) ?_
    · intro w; go_simp
    refine wpAny_ready (rs := [94]) (by as_aux_lemma => kernel_rfl) (by simp) ?_
    refine AllReady.cons rfl (fun K hK => ?_) AllReady.nil
    go_simp
    refine hK _ _ ?_
    clear hK K
    refine wpAny_ready (rs := [95]) (by as_aux_lemma => kernel_rfl) (by simp) ?_
    refine AllReady.cons rfl (fun K hK => ?_) AllReady.nil
    go_simp
    refine hK _ _ ?_
    clear hK K
    refine wpAny_take (i := 96) (v := .bool true) rfl (by as_aux_lemma => kernel_rfl) (by as_aux_lemma => kernel_rfl) (by as_aux_lemma => kernel_rfl) (fun _ _ _ h => h) (Or.inl ⟨by as_aux_lemma => kernel_rfl, ?_⟩) ?_
    · intro w; go_simp
    refine wpAny_take (i := 97) (v := .bool true) rfl (by as_aux_lemma => kernel_rfl) (by as_aux_lemma => kernel_rfl) (by as_aux_lemma => kernel_rfl) (fun _ _ _ h => h) (Or.inl ⟨by as_aux_lemma => kernel_rfl, ?_⟩) ?_
    · intro w; go_simp
    refine wpAny_take (i := 98) (v := .bool true) rfl (by as_aux_lemma => kernel_rfl) (by as_aux_lemma => kernel_rfl) (by as_aux_lemma => kernel_rfl) (fun _ _ _ h => h) (Or.inl ⟨by as_aux_lemma => kernel_rfl, ?_⟩) ?_
    · intro w; go_simp
    refine wpAny_done (by as_aux_lemma => kernel_rfl) ?_ _
    have B10 := HB.out (.cells cs 5)
    go_wp2
    go_ret
    exact ⟨rfl, B10⟩
theorem walk (p : Pk) (a : Option Addr) (c : Nat) (w : World) (hL : OpLies w a p.os) (hch : p.ch.size ≤ maxLen) (_ho : ∀ o ∈ p.os, o.2.length ≤ maxLen) (_hl : p.os.length * 24 ≤ 140737488351232) : Calls Try.prog 8 #[pv p a c] w fun e w' => e = .returned (.bool true) ∧ Below w.heap.size w w' := by
  cases h : mayP p && decide ((putA p.os).2 = 0) with
  | false => exact walk_no p a c w hL hch (by unfold putP; rw [h]; rfl)
  | true =>
    have hA : putP p = (headP p ++ putO p.os, 0) := by unfold putP; rw [h]; rfl
    simp only [Bool.and_eq_true, decide_eq_true_eq] at h
    exact walk_yes p a c w hL h.1 hA ((putA_cases p.os).2.1.1 h.2).2

theorem own : ownKnob Try.prog.godebug = none := by kernel_rfl
theorem laidOut : laidOutB Try.prog = true := by kernel_rfl

/-! ### The row's step -/
set_option maxRecDepth 100000 in
theorem lifted (os : Os) (started : os.Started) (H : Type) (enc : TypeId × Value → H) :
    ReturnsInHanded {} Try.checked os 8 .any (Rows.packetHeadsSpec.pre6 enc Try.prog Try.f8 Rows.packetHeadsRow.domain false) (Rows.packetHeadsSpec.post enc Try.prog Try.f8 false true false false) := by
  refine returnsInHanded_of_change_sized (C := Try.checked) own started (by kernel_rfl) Try.func8
    (ChangeSpec.witness6 (enc := enc) (C := Try.checked) false ⟨#[], #[.agg #[.int .i64 0, .int .i64 0, .int .i64 0, .int .i64 0, .int .i64 0, .int .i64 0, .int .i64 0, .int .i64 0, .int .i64 0, .int .i64 0, .string ByteArray.empty, .slice none 0 0]], []⟩ 8 (by kernel_rfl) (by kernel_rfl) (by kernel_rfl) (by kernel_rfl)) ?_
  intro W base args ds gs before hval0 hW _ hsz0 _
  have hval : ∀ (j : Nat) t v, Try.f8.params[j]? = some t → args[j]? = some v → Value.okWide Try.prog W .any base t v := hval0
  have hsz : (DataW.weightsEach Try.prog (Try.f8.params.toList ++ Rows.packetHeadsSpec.plain.varTypes Try.prog) (ds ++ gs)).all (· ≤ reachBytes) = true := hsz0
  have hW' := hW
  obtain ⟨p, q, hA0, hV, rfl, _, _⟩ := hW
  have hA : DataW.TrodAll enc Try.prog W 0 (fun _ => true) true Try.f8.params.toList args.toList ds p := hA0
  rw [Try.params8] at hA hval hsz
  obtain ⟨v0, vs0, d0, ds0, p0, q0, hargs, rfl, rfl, h0, r0⟩ := trodAll_cons hA
  obtain ⟨rfl, rfl, rfl⟩ := trodAll_nil r0
  obtain rfl : args = #[v0] := by cases args; simp_all
  obtain ⟨rfl, rfl⟩ := trodVars_none hV
  have k0 := h0
  have lt0 : ∀ x ∈ p0, x.block < W.heap.size := by obtain ⟨m, hm⟩ := k0; exact DataW.trod_lt m _ _ _ hm
  obtain ⟨a0, A0, C0, rfl, w0, f0, g0, u0⟩ := open_pk (hval 0 40 v0 rfl rfl) h0
  have b0 : a0.os.length * 24 ≤ 140737488351232 := u0 (fun n hn => by have := List.all_eq_true.1 hsz n (DataW.weights_mem_each (j := 0) (t := 40) (d := d0) rfl rfl n hn); simpa using this)
  clear hA0 hval0 hsz0
  refine (walk a0 A0 C0 W w0 f0 g0 b0).mono fun e W' ⟨he, bel⟩ => ?_
  subst he
  exact ⟨_, rfl, _, _, _, [], _, [], hW', trodAll_mk1 (shut_bool Try.underlying4 _), (trodAll_cons_mk (Below.trod laidOut (by kernel_rfl) (of_decide_eq_true (by kernel_rfl)) k0 bel lt0) trodAll_mk0), rfl, bel.frame _, fun h => by cases h⟩

theorem over : Rows.packetHeadsRow.holds Try.pinned (OpenSpec.ofChange Rows.packetHeadsSpec) :=
  OpenClaim.holds_of_wide 8 Try.f8 rfl rfl rfl rfl rfl rfl rfl ⟨rfl, rfl, rfl, rfl, rfl⟩ rfl rfl rfl rfl rfl (by kernel_rfl) Try.func8 (by kernel_rfl)
    (of_decide_eq_true (by kernel_rfl)) (by unfold Func.isWrapper; first | (rw [if_pos (by decide +kernel)]; kernel_rfl) | (rw [if_neg (by decide +kernel)]; exact ⟨rfl, rfl⟩))
    (fun os started H enc _ => lifted os started H enc)

/-- The given statement. -/
theorem proved : Rows.PacketHeadsSaid := over

end packetHeads
theorem packetHeads_proved : Rows.PacketHeadsSaid := packetHeads.proved
end Go.Proofs.Ytghbaojilhgllaa
