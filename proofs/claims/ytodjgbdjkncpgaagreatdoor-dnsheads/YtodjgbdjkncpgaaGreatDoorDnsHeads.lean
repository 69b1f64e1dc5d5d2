/-
  pinfoldlaw5.DnsHeads, at every message: it returns true; what came in reads as it did. No condition; the row's listed variable (rr.soaTimes) is tied to the program's text by the given tie.
-/
import Derived.Test.YtodjgbdjkncpgaaGreatDoorCards
import Derived.Test.YtodjgbdjkncpgaaGreatDoorTie
import Derived.Test.YtodjgbdjkncpgaaGreatDoorAwake5
import Derived.Test.YtodjgbdjkncpgaaGreatDoorBDns
import Derived.Test.YtodjgbdjkncpgaaGreatDoorDnsOpen
import Derived.Test.YtodjgbdjkncpgaaGreatDoorDnsHeadsLex
import Derived.WalkKit
import Derived.ProofKit
import Derived.OpenShut
import Derived.ShutString
import Derived.ChangeOld
import Derived.SizedLaws
import Derived.Carry
import Derived.Deep.DeepHandedRow
import Derived.Lib.LaidTab
namespace Go.Proofs.YtodjgbdjkncpgaaGreatDoor
set_option maxRecDepth 100000
namespace dnsHeads
open Go.ChangeShapes Go.WideShapes Go.ChangeAt Go.RowKit Go.Pin Go.PlainAid Go.ChangeMaps

theorem or2 (S : ByteArray) (a : Nat) : bits .or .i64 (wrap64 (wrap64 (bt S a) * 256)) (wrap64 (bt S (a + 1))) = num S a 2 := by
  have h0 := bt_nonneg S a
  have h1 := bt_le S a
  have e : wrap64 (bt S a) = bt S a := by unfold wrap64; omega
  rw [e, or_byte _ _ h0 (by omega) (bt_nonneg _ _) (bt_le _ _), num_two]

set_option maxHeartbeats 2000000 in
theorem walk_opt (m : Msg) (p : Pl) (w : World) (hl : MsgLies w m p) (hf : MsgFits m) (hL : Laid w) (h : MayM m) (hs0 : 0 < m.sz) : Calls Tryz.prog 6 #[mv m p] w fun e w' => e = .returned (.bool true) ∧ Below w.heap.size w w' := by
  have HP : Hid (∀ w', Below w.heap.size w w' → _) := fun w' hb => dPut_is m p 65535 _ _ w' hf (hl.below hb) (hL.below hb) (putM_max h)
  obtain ⟨_, l12, l60⟩ := getM_written h
  rw [← size_mk] at l12 l60
  obtain ⟨e0, e2, e4, e6, e8, e10⟩ := heads h
  generalize mk (writtenM m) = S at *
  rw [← or2] at e0 e2 e4 e6 e8 e10
  simp only [Nat.zero_add, Nat.reduceAdd] at e0 e2 e4 e6 e8 e10
  obtain ⟨⟨hb0, hb1⟩, k1, k2, k3, k4, k5, k6, k7⟩ := bits_told h.op h.co
  obtain ⟨n, hn⟩ := Int.eq_ofNat_of_zero_le hb0
  rw [hn] at e2 hb1 k1 k2 k3 k4 k5 k6 k7
  have hn6 : n < 65536 := by omega
  have y1 := and_bit n 15 32768 hn6 (by decide) (by decide)
  have y2 := and_bit n 10 1024 hn6 (by decide) (by decide)
  have y3 := and_bit n 9 512 hn6 (by decide) (by decide)
  have y4 := and_bit n 8 256 hn6 (by decide) (by decide)
  have y5 := and_240 n hn6
  have y6 : bits .and .i64 ((n : Int) / 2048) 15 = m.op := by rw [← k3]; exact i64_mask 4 _ (by omega)
  have y7 : bits .and .i64 (n : Int) 15 = m.co := by rw [← k7]; exact i64_mask 4 _ (by omega)
  rw [k2] at y1
  rw [k4] at y2
  rw [k5] at y3
  rw [k6] at y4
  rw [k1] at y5
  have y5' : bits .and .i64 (n : Int) 240 = 0 := by simpa using y5
  have hal := h.adl
  have hwr : ∀ x, IntKind.i64.wrap x = wrap64 x := fun x => by rw [IntKind.wrap_i64]; unfold wrap64; rfl
  have f0 : bits .or .i64 (IntKind.i64.wrap (IntKind.i64.wrap (bt S 0) * 256)) (IntKind.i64.wrap (bt S 1)) = m.id := by rw [hwr, hwr, hwr]; exact e0
  have f4 : bits .or .i64 (IntKind.i64.wrap (IntKind.i64.wrap (bt S 4) * 256)) (IntKind.i64.wrap (bt S 5)) = m.qs.length := by rw [hwr, hwr, hwr]; exact e4
  have f6 : bits .or .i64 (IntKind.i64.wrap (IntKind.i64.wrap (bt S 6) * 256)) (IntKind.i64.wrap (bt S 7)) = m.an.length := by rw [hwr, hwr, hwr]; exact e6
  have f8 : bits .or .i64 (IntKind.i64.wrap (IntKind.i64.wrap (bt S 8) * 256)) (IntKind.i64.wrap (bt S 9)) = m.sv.length := by rw [hwr, hwr, hwr]; exact e8
  have f10 : bits .or .i64 (IntKind.i64.wrap (IntKind.i64.wrap (bt S 10) * 256)) (IntKind.i64.wrap (bt S 11)) = ((m.ad.length + optN m.sz : Nat) : Int) := by rw [hwr, hwr, hwr]; exact e10
  have hop : optN m.sz = if 0 < m.sz then 1 else 0 := rfl
  rw [hop] at e10 f10
  clear hwr y5 k1 k2 k3 k4 k5 k6 k7 hb0 hb1 hn hop
  have hb := get_bt S
  have HL : Hid (Laid w) := hL
  have B0 : Hid (Below w.heap.size w (w.alloc (.cells (cellsM m p) 25))) := (Below.refl w.heap.size w).alloc (Nat.le_refl _) _
  have X0 : Hid (BoxM (w.alloc (.cells (cellsM m p) 25)) w.heap.size m p) := BoxM.new w m p
  have hbel : Hid (∀ w' w'', BoxM w' w.heap.size m p → Below w'.heap.size w' w'' → BoxM w'' w.heap.size m p) := fun w' w'' h1 h2 => h1.below h2
  have hcell : Hid (∀ w', BoxM w' w.heap.size m p → _) := fun w' h => h.all
  clear hl hf hL h
  obtain ⟨id, rsp, op, au, tr, re, co, qs, an, sv, ad, sz⟩ := m
  obtain ⟨pqa, pqc, paa, pac, psa, psc, pda, pdc⟩ := p
  simp only [mv, cellsM] at *
  go_enter Tryz.func6, Tryz.ntmps6
  go_wp2_with fail
  refine (awake5_yes _ (HL.out.below B0.out)).mono ?_; rintro e w1 ⟨rfl, hb1⟩
  have B1 : Hid (Below w.heap.size w w1) := bel_trans B0.out hb1
  have X1 : Hid (_) := hbel.out _ _ X0.out hb1
  clear hb1 B0 X0
  obtain ⟨c0, c1, c2, c3, c4, c5, c6, c7, c8, c9, c10, c11⟩ := hcell.out _ X1.out
  go_wp2_with fail
  refine (HP.out _ B1.out).mono ?_; rintro e w2 ⟨rfl, hb2⟩
  have B2 : Hid (Below w.heap.size w w2) := bel_trans B1.out hb2
  have X2 : Hid (_) := hbel.out _ _ X1.out hb2
  clear hb2 c0 c1 c2 c3 c4 c5 c6 c7 c8 c9 c10 c11 B1 X1 HP
  obtain ⟨c0, c1, c2, c3, c4, c5, c6, c7, c8, c9, c10, c11⟩ := hcell.out _ X2.out
  have hz : ¬ S.size < 12 := by omega
  have hz0 : 0 < S.size := by omega
  have hz1 : (0 : Int) < (S.size : Int) := by omega
  have hz2 : ¬ S.size = 0 := by omega
  have hz3 : 1 < S.size := by omega
  have hi1 : (1 : Int) < (S.size : Int) := by omega
  have hi2 : (2 : Int) < (S.size : Int) := by omega
  have hi3 : (3 : Int) < (S.size : Int) := by omega
  have hi4 : (4 : Int) < (S.size : Int) := by omega
  have hi5 : (5 : Int) < (S.size : Int) := by omega
  have hi6 : (6 : Int) < (S.size : Int) := by omega
  have hi7 : (7 : Int) < (S.size : Int) := by omega
  have hi8 : (8 : Int) < (S.size : Int) := by omega
  have hi9 : (9 : Int) < (S.size : Int) := by omega
  have hi10 : (10 : Int) < (S.size : Int) := by omega
  have hi11 : (11 : Int) < (S.size : Int) := by omega
  go_wp2_with (go_at_call 12; refine (num_any _ _).mono ?_; rintro e w7 ⟨rfl, rfl⟩)
  rw [if_pos hs0] at e10 f10
  have hw2 : IntKind.i64.wrap ((ad.length : Int) + 1) = ((ad.length + 1 : Nat) : Int) := by rw [IntKind.wrap_i64]; omega
  have hw : wrap64 ((ad.length : Int) + 1) = ((ad.length + 1 : Nat) : Int) := by unfold wrap64; omega
  go_quiet (fail)
  go_wp2
  simp only [List.append_eq, List.cons_append, List.nil_append]
  refine wp_region_quiet_lit (by kernel_rfl) lexAll ?_
  repeat (first | go_big_quiet_skip | (go_big_quiet_want; go_big_quiet_op; go_big_quiet_on))
  refine wpQuiet_nil ?_
  intro _ hw'
  obtain ⟨nq2, hw''⟩ := hw'
  subst hw''
  go_wp2
  go_ret
  exact ⟨rfl, below_drewN (below_drewN B2.out _) _⟩

set_option maxHeartbeats 2000000 in
theorem walk_none (m : Msg) (p : Pl) (w : World) (hl : MsgLies w m p) (hf : MsgFits m) (hL : Laid w) (h : MayM m) (hs0 : ¬ 0 < m.sz) : Calls Tryz.prog 6 #[mv m p] w fun e w' => e = .returned (.bool true) ∧ Below w.heap.size w w' := by
  have HP : Hid (∀ w', Below w.heap.size w w' → _) := fun w' hb => dPut_is m p 65535 _ _ w' hf (hl.below hb) (hL.below hb) (putM_max h)
  obtain ⟨_, l12, l60⟩ := getM_written h
  rw [← size_mk] at l12 l60
  obtain ⟨e0, e2, e4, e6, e8, e10⟩ := heads h
  generalize mk (writtenM m) = S at *
  rw [← or2] at e0 e2 e4 e6 e8 e10
  simp only [Nat.zero_add, Nat.reduceAdd] at e0 e2 e4 e6 e8 e10
  obtain ⟨⟨hb0, hb1⟩, k1, k2, k3, k4, k5, k6, k7⟩ := bits_told h.op h.co
  obtain ⟨n, hn⟩ := Int.eq_ofNat_of_zero_le hb0
  rw [hn] at e2 hb1 k1 k2 k3 k4 k5 k6 k7
  have hn6 : n < 65536 := by omega
  have y1 := and_bit n 15 32768 hn6 (by decide) (by decide)
  have y2 := and_bit n 10 1024 hn6 (by decide) (by decide)
  have y3 := and_bit n 9 512 hn6 (by decide) (by decide)
  have y4 := and_bit n 8 256 hn6 (by decide) (by decide)
  have y5 := and_240 n hn6
  have y6 : bits .and .i64 ((n : Int) / 2048) 15 = m.op := by rw [← k3]; exact i64_mask 4 _ (by omega)
  have y7 : bits .and .i64 (n : Int) 15 = m.co := by rw [← k7]; exact i64_mask 4 _ (by omega)
  rw [k2] at y1
  rw [k4] at y2
  rw [k5] at y3
  rw [k6] at y4
  rw [k1] at y5
  have y5' : bits .and .i64 (n : Int) 240 = 0 := by simpa using y5
  have hal := h.adl
  have hwr : ∀ x, IntKind.i64.wrap x = wrap64 x := fun x => by rw [IntKind.wrap_i64]; unfold wrap64; rfl
  have f0 : bits .or .i64 (IntKind.i64.wrap (IntKind.i64.wrap (bt S 0) * 256)) (IntKind.i64.wrap (bt S 1)) = m.id := by rw [hwr, hwr, hwr]; exact e0
  have f4 : bits .or .i64 (IntKind.i64.wrap (IntKind.i64.wrap (bt S 4) * 256)) (IntKind.i64.wrap (bt S 5)) = m.qs.length := by rw [hwr, hwr, hwr]; exact e4
  have f6 : bits .or .i64 (IntKind.i64.wrap (IntKind.i64.wrap (bt S 6) * 256)) (IntKind.i64.wrap (bt S 7)) = m.an.length := by rw [hwr, hwr, hwr]; exact e6
  have f8 : bits .or .i64 (IntKind.i64.wrap (IntKind.i64.wrap (bt S 8) * 256)) (IntKind.i64.wrap (bt S 9)) = m.sv.length := by rw [hwr, hwr, hwr]; exact e8
  have f10 : bits .or .i64 (IntKind.i64.wrap (IntKind.i64.wrap (bt S 10) * 256)) (IntKind.i64.wrap (bt S 11)) = ((m.ad.length + optN m.sz : Nat) : Int) := by rw [hwr, hwr, hwr]; exact e10
  have hop : optN m.sz = if 0 < m.sz then 1 else 0 := rfl
  rw [hop] at e10 f10
  clear hwr y5 k1 k2 k3 k4 k5 k6 k7 hb0 hb1 hn hop
  have hb := get_bt S
  have HL : Hid (Laid w) := hL
  have B0 : Hid (Below w.heap.size w (w.alloc (.cells (cellsM m p) 25))) := (Below.refl w.heap.size w).alloc (Nat.le_refl _) _
  have X0 : Hid (BoxM (w.alloc (.cells (cellsM m p) 25)) w.heap.size m p) := BoxM.new w m p
  have hbel : Hid (∀ w' w'', BoxM w' w.heap.size m p → Below w'.heap.size w' w'' → BoxM w'' w.heap.size m p) := fun w' w'' h1 h2 => h1.below h2
  have hcell : Hid (∀ w', BoxM w' w.heap.size m p → _) := fun w' h => h.all
  clear hl hf hL h
  obtain ⟨id, rsp, op, au, tr, re, co, qs, an, sv, ad, sz⟩ := m
  obtain ⟨pqa, pqc, paa, pac, psa, psc, pda, pdc⟩ := p
  simp only [mv, cellsM] at *
  go_enter Tryz.func6, Tryz.ntmps6
  go_wp2_with fail
  refine (awake5_yes _ (HL.out.below B0.out)).mono ?_; rintro e w1 ⟨rfl, hb1⟩
  have B1 : Hid (Below w.heap.size w w1) := bel_trans B0.out hb1
  have X1 : Hid (_) := hbel.out _ _ X0.out hb1
  clear hb1 B0 X0
  obtain ⟨c0, c1, c2, c3, c4, c5, c6, c7, c8, c9, c10, c11⟩ := hcell.out _ X1.out
  go_wp2_with fail
  refine (HP.out _ B1.out).mono ?_; rintro e w2 ⟨rfl, hb2⟩
  have B2 : Hid (Below w.heap.size w w2) := bel_trans B1.out hb2
  have X2 : Hid (_) := hbel.out _ _ X1.out hb2
  clear hb2 c0 c1 c2 c3 c4 c5 c6 c7 c8 c9 c10 c11 B1 X1 HP
  obtain ⟨c0, c1, c2, c3, c4, c5, c6, c7, c8, c9, c10, c11⟩ := hcell.out _ X2.out
  have hz : ¬ S.size < 12 := by omega
  have hz0 : 0 < S.size := by omega
  have hz1 : (0 : Int) < (S.size : Int) := by omega
  have hz2 : ¬ S.size = 0 := by omega
  have hz3 : 1 < S.size := by omega
  have hi1 : (1 : Int) < (S.size : Int) := by omega
  have hi2 : (2 : Int) < (S.size : Int) := by omega
  have hi3 : (3 : Int) < (S.size : Int) := by omega
  have hi4 : (4 : Int) < (S.size : Int) := by omega
  have hi5 : (5 : Int) < (S.size : Int) := by omega
  have hi6 : (6 : Int) < (S.size : Int) := by omega
  have hi7 : (7 : Int) < (S.size : Int) := by omega
  have hi8 : (8 : Int) < (S.size : Int) := by omega
  have hi9 : (9 : Int) < (S.size : Int) := by omega
  have hi10 : (10 : Int) < (S.size : Int) := by omega
  have hi11 : (11 : Int) < (S.size : Int) := by omega
  have hs0' : ¬ 0 < sz := by omega
  have hs1 : decide (0 < sz) = false := decide_eq_false hs0'
  rw [if_neg hs0', Nat.add_zero] at e10 f10
  have hw2 : IntKind.i64.wrap (ad.length : Int) = (ad.length : Int) := by rw [IntKind.wrap_i64]; omega
  have hw : wrap64 (ad.length : Int) = (ad.length : Int) := by unfold wrap64; omega
  go_wp2_with (go_at_call 12; refine (num_any _ _).mono ?_; rintro e w7 ⟨rfl, rfl⟩)
  go_quiet (fail)
  go_wp2
  simp only [List.append_eq, List.cons_append, List.nil_append]
  refine wp_region_quiet_lit (by kernel_rfl) lexAll ?_
  repeat (first | go_big_quiet_skip | (go_big_quiet_want; go_big_quiet_op; go_big_quiet_on))
  refine wpQuiet_nil ?_
  intro _ hw'
  obtain ⟨nq2, hw''⟩ := hw'
  subst hw''
  go_wp2
  go_ret
  exact ⟨rfl, below_drewN (below_drewN B2.out _) _⟩

set_option maxHeartbeats 1000000 in
theorem walk_no (m : Msg) (p : Pl) (w : World) (hl : MsgLies w m p) (hf : MsgFits m) (hL : Laid w) (h : mayM m = false) : Calls Tryz.prog 6 #[mv m p] w fun e w' => e = .returned (.bool true) ∧ Below w.heap.size w w' := by
  have HP : Hid (∀ w', Below w.heap.size w w' → _) := fun w' hb => dPut_is m p 65535 _ _ w' hf (hl.below hb) (hL.below hb) (putM_no h 65535)
  have HL : Hid (Laid w) := hL
  have B0 : Hid (Below w.heap.size w (w.alloc (.cells (cellsM m p) 25))) := (Below.refl w.heap.size w).alloc (Nat.le_refl _) _
  have X0 : Hid (BoxM (w.alloc (.cells (cellsM m p) 25)) w.heap.size m p) := BoxM.new w m p
  have hbel : Hid (∀ w' w'', BoxM w' w.heap.size m p → Below w'.heap.size w' w'' → BoxM w'' w.heap.size m p) := fun w' w'' h1 h2 => h1.below h2
  have hcell : Hid (∀ w', BoxM w' w.heap.size m p → _) := fun w' h => h.all
  clear hl hf hL h
  obtain ⟨id, rsp, op, au, tr, re, co, qs, an, sv, ad, sz⟩ := m
  obtain ⟨pqa, pqc, paa, pac, psa, psc, pda, pdc⟩ := p
  simp only [mv, cellsM] at *
  go_enter Tryz.func6, Tryz.ntmps6
  go_wp2_with fail
  refine (awake5_yes _ (HL.out.below B0.out)).mono ?_; rintro e w1 ⟨rfl, hb1⟩
  have B1 : Hid (Below w.heap.size w w1) := bel_trans B0.out hb1
  have X1 : Hid (_) := hbel.out _ _ X0.out hb1
  clear hb1 B0 X0
  obtain ⟨c0, c1, c2, c3, c4, c5, c6, c7, c8, c9, c10, c11⟩ := hcell.out _ X1.out
  go_wp2_with fail
  refine (HP.out _ B1.out).mono ?_; rintro e w2 ⟨rfl, hb2⟩
  have B2 := bel_trans B1.out hb2
  clear hb2 c0 c1 c2 c3 c4 c5 c6 c7 c8 c9 c10 c11
  go_wp2_with (go_at_call 12; refine (num_any _ _).mono ?_; rintro e w7 ⟨rfl, rfl⟩)
  go_ret
  exact ⟨rfl, B2⟩

theorem walk (m : Msg) (p : Pl) (w : World) (hl : MsgLies w m p) (hf : MsgFits m) (hL : Laid w) : Calls Tryz.prog 6 #[mv m p] w fun e w' => e = .returned (.bool true) ∧ Below w.heap.size w w' := by
  cases h : mayM m with
  | false => exact walk_no m p w hl hf hL h
  | true =>
    by_cases hs : 0 < m.sz
    · exact walk_opt m p w hl hf hL ((mayM_iff m).1 h) hs
    · exact walk_none m p w hl hf hL ((mayM_iff m).1 h) hs

theorem own : ownKnob Tryz.prog.godebug = none := by kernel_rfl
theorem laidOut : laidOutB Tryz.prog = true := by kernel_rfl
theorem gTab : Tryz.prog.globalNamed "pinfold/rr.soaTimes" = some 0 := by kernel_rfl
theorem gTabType : (Tryz.prog.globals[0]?).map (·.type) = some 115 := by kernel_rfl
theorem cellsTab : Tryz.prog.cellsOf 115 = 4 := by kernel_rfl
theorem cellsInt : Tryz.prog.cellsOf 3 = 1 := by kernel_rfl
/-- What the row's list gives. -/
theorem table {W : World} (h : laidMetH Tryz.prog Rows.dnsHeadsRow.laid W) : Laid W := by
  have t : Lib.TabIs Tryz.prog W "pinfold/rr.soaTimes" .i64 [60, 60, 600, 60] := Lib.tabIs_of_head (rest := []) gTab gTabType Tryz.underlying115 Tryz.underlying3 cellsInt cellsTab h
  exact ⟨t.cell gTab 0 (by decide), t.cell gTab 1 (by decide), t.cell gTab 2 (by decide), t.cell gTab 3 (by decide)⟩
/-- A world for the witness: the table holds what its initialiser lays. -/
noncomputable def laidWorld (os : Os) : World :=
  { World.holding Tryz.prog os ⟨#[], #[], []⟩ with heap := (World.holding Tryz.prog os ⟨#[], #[], []⟩).heap.modify 0 fun
      | .cells _ t frozen => .cells #[.int .i64 60, .int .i64 60, .int .i64 600, .int .i64 60] t frozen
      | o => o }
theorem laid_met (os : Os) : laidMet Tryz.prog Rows.dnsHeadsRow.laid ((laidWorld os).forCall (fun _ _ => 0) ⟨#[], #[.agg #[.int .i64 0, .bool false, .int .i64 0, .bool false, .bool false, .bool false, .int .i64 0, .slice none 0 0, .slice none 0 0, .slice none 0 0, .slice none 0 0, .int .i64 0]], []⟩).memory :=
  laidMet_of_run' 8 (by kernel_rfl) (by kernel_rfl)
theorem reads (os : Os) {H : Type} (enc : TypeId × Value → H) : ∃ places, DataW.whole enc Tryz.prog ((laidWorld os).forCall (fun _ _ => 0) ⟨#[], #[.agg #[.int .i64 0, .bool false, .int .i64 0, .bool false, .bool false, .bool false, .int .i64 0, .slice none 0 0, .slice none 0 0, .slice none 0 0, .slice none 0 0, .int .i64 0]], []⟩).memory Tryz.f6.params.toList Rows.dnsHeadsSpec.vars false (#[.agg #[.int .i64 0, .bool false, .int .i64 0, .bool false, .bool false, .bool false, .int .i64 0, .slice none 0 0, .slice none 0 0, .slice none 0 0, .slice none 0 0, .int .i64 0]] : Array Value).toList 8 = some ([.agg [.lit (.int .i64 0), .lit (.bool false), .lit (.int .i64 0), .lit (.bool false), .lit (.bool false), .lit (.bool false), .lit (.int .i64 0), .nil, .nil, .nil, .nil, .lit (.int .i64 0)]], [], places) :=
  ⟨[], by kernel_rfl⟩

/-! ### The row's step -/
set_option maxRecDepth 100000 in
theorem lifted (os : Os) (started : os.Started) (H : Type) (enc : TypeId × Value → H) (F : Stop.Interp) :
    ReturnsInHanded {} Tryz.checked os 6 .any ((OpenSpec.ofChange Rows.dnsHeadsSpec).preRow enc Tryz.prog Tryz.f6 Rows.dnsHeadsRow.domain false Rows.dnsHeadsRow.laid) (((OpenSpec.ofChange Rows.dnsHeadsSpec).at F).post enc Tryz.prog Tryz.f6 false true false false) := by
  obtain ⟨places, hx⟩ := reads os enc
  refine returnsInHanded_of_row (C := Tryz.checked) (s := OpenSpec.ofChange Rows.dnsHeadsSpec) own started (by kernel_rfl) Tryz.func6
    (witness_row_at (enc := enc) (C := Tryz.checked) false (laidWorld os) #[.agg #[.int .i64 0, .bool false, .int .i64 0, .bool false, .bool false, .bool false, .int .i64 0, .slice none 0 0, .slice none 0 0, .slice none 0 0, .slice none 0 0, .int .i64 0]] rfl (by kernel_rfl) (by kernel_rfl) (by kernel_rfl)
      (OpenSpec.preRow_of_cond 8 hx (by kernel_rfl) (fun k hk => by cases hk) (by kernel_rfl) (laid_met os))) ?_
  intro W base args ds gs before hval0 hW _ hcond hsz0 hL _ _
  have hLaid := table hL
  have hval : ∀ (j : Nat) t v, Tryz.f6.params[j]? = some t → args[j]? = some v → Value.okWide Tryz.prog W .any base t v := hval0
  have hsz : (DataW.weightsEach Tryz.prog (Tryz.f6.params.toList ++ Rows.dnsHeadsSpec.plain.varTypes Tryz.prog) (ds ++ gs)).all (· ≤ reachBytes) = true := hsz0
  have hW' := hW
  obtain ⟨p, q, hA0, hV, rfl, _, _⟩ := hW
  have hA : DataW.TrodAll enc Tryz.prog W 0 (fun _ => true) true Tryz.f6.params.toList args.toList ds p := hA0
  rw [Tryz.params6] at hA hval hsz
  obtain ⟨v0, vs0, d0, ds0, p0, q0, hargs, rfl, rfl, h0, r0⟩ := trodAll_cons hA
  obtain ⟨rfl, rfl, rfl⟩ := trodAll_nil r0
  obtain rfl : args = #[v0] := by cases args; simp_all
  obtain ⟨rfl, rfl⟩ := trodVars_none hV
  have k0 := h0
  have lt0 : ∀ x ∈ p0, x.block < W.heap.size := by obtain ⟨m, hm⟩ := k0; exact DataW.trod_lt m _ _ _ hm
  obtain ⟨a0, P0, rfl, w0, f0, u0⟩ := open_msg (hval 0 25 v0 rfl rfl) h0
  clear hA0 hval0 hsz0 hcond
  refine (walk a0 P0 W w0 f0 hLaid).mono fun e W' ⟨he, bel⟩ => ?_
  subst he
  exact ⟨_, rfl, _, _, _, [], _, [], hW', trodAll_mk1 (shut_bool Tryz.underlying4 _), (trodAll_cons_mk (Below.trod laidOut (by kernel_rfl) (of_decide_eq_true (by kernel_rfl)) k0 bel lt0) trodAll_mk0), rfl, bel.frame _, fun h => by cases h⟩

theorem said : Rows.DnsHeadsSaid :=
  OpenClaim.holds_of_cond 6 Tryz.f6 rfl rfl rfl rfl rfl rfl rfl ⟨rfl, rfl, rfl, rfl, rfl⟩ rfl rfl rfl rfl rfl (by kernel_rfl) Tryz.func6 (by kernel_rfl)
    (of_decide_eq_true (by kernel_rfl)) (by unfold Func.isWrapper; first | (rw [if_pos (by decide +kernel)]; kernel_rfl) | (rw [if_neg (by decide +kernel)]; exact ⟨rfl, rfl⟩))
    (fun os started H enc _ F => by rw [OpenClaim.pre_eq_preRow]; exact lifted os started H enc F)
/-- No parameter wants a stand-in. -/
theorem plain (f : FuncId) (fn : Func) (hf : Tryz.pinned.checked.prog.funcNamed "pinfold/pinfoldlaw5.DnsHeads" = some f) (hfn : Tryz.pinned.checked.prog.funcs[f]? = some fn) :
    false = Tryz.pinned.checked.prog.looks [] ∧ ∀ (j : Nat) t, fn.params[j]? = some t → Tryz.pinned.checked.prog.wantsStandIn t = false := by
  obtain rfl : f = 6 := Option.some.inj ((show Tryz.prog.funcNamed "pinfold/pinfoldlaw5.DnsHeads" = some 6 by kernel_rfl).symm.trans hf) |>.symm
  obtain rfl : fn = Tryz.f6 := (Option.some.inj (Tryz.func6.symm.trans hfn)).symm
  refine ⟨by kernel_rfl, fun j t ht => ?_⟩
  rw [Tryz.params6] at ht
  have hm := Array.mem_of_getElem? ht
  simp at hm
  subst hm
  exact (show Tryz.prog.wantsStandIn 25 = false by kernel_rfl)
/-- The given statement. -/
theorem card : Rows.DnsHeadsCardSaid :=
  Claim7.holds_tied_plain_at .later [] _ _ _ _ said (fun _ h => by cases h) (by kernel_rfl) (fun _ h => by cases h) dnsHeads_row_tie rfl ⟨rfl, rfl⟩ (by kernel_rfl) rfl plain (by kernel_rfl)

end dnsHeads
theorem dnsHeads_proved : Rows.DnsHeadsCardSaid := dnsHeads.card
end Go.Proofs.YtodjgbdjkncpgaaGreatDoor
