/-
  pinfoldlaw5.DnsBack, at every message and number: it returns true; what came in reads as it did. No condition; the row's listed variable (rr.soaTimes) is tied to the program's text by the given tie.
-/
import Derived.Test.YtodjgbdjkncpgaaGreatDoorCards
import Derived.Test.YtodjgbdjkncpgaaGreatDoorTie
import Derived.Test.YtodjgbdjkncpgaaGreatDoorAwake5
import Derived.Test.YtodjgbdjkncpgaaGreatDoorBDns
import Derived.Test.YtodjgbdjkncpgaaGreatDoorDnsSame
import Derived.Test.YtodjgbdjkncpgaaGreatDoorDnsOpen
import Derived.WalkKit
import Derived.ProofKit
import Derived.OpenShut
import Derived.ShutString
import Derived.ChangeOld
import Derived.SizedLaws
import Derived.Carry
import Derived.Deep.DeepHandedRow
import Derived.Lib.LaidTab
namespace Go.Proofs.YtodjgbdjkncpgaaGreatDoor
set_option maxRecDepth 100000
namespace dnsBack
open Go.ChangeShapes Go.WideShapes Go.ChangeAt Go.RowKit Go.Pin Go.PlainAid Go.ChangeMaps

set_option maxHeartbeats 1000000 in
theorem walk_no (m : Msg) (p : Pl) (a : Int) (w : World) (hl : MsgLies w m p) (hf : MsgFits m) (hL : Laid w) (h : mayM m = false) : Calls Tryz.prog 4 #[mv m p, .int .i64 a] w fun e w' => e = .returned (.bool true) ∧ Below w.heap.size w w' := by
  have HP : Hid (∀ w', Below w.heap.size w w' → _) := fun w' hb => dPut_is m p 65535 _ _ w' hf (hl.below hb) (hL.below hb) (putM_no h 65535)
  have HY : Hid (∀ w', Below w.heap.size w w' → _) := fun w' hb => dMay_c m p w' hf (hl.below hb)
  rw [h] at HY
  have HL : Hid (Laid w) := hL
  have B0 : Hid (Below w.heap.size w (w.alloc (.cells (cellsM m p) 25))) := (Below.refl w.heap.size w).alloc (Nat.le_refl _) _
  have X0 : Hid (BoxM (w.alloc (.cells (cellsM m p) 25)) w.heap.size m p) := BoxM.new w m p
  have hbel : Hid (∀ w' w'', BoxM w' w.heap.size m p → Below w'.heap.size w' w'' → BoxM w'' w.heap.size m p) := fun w' w'' h1 h2 => h1.below h2
  have hcell : Hid (∀ w', BoxM w' w.heap.size m p → _) := fun w' h => h.all
  clear hl hf hL h
  obtain ⟨id, rsp, op, au, tr, re, co, qs, an, sv, ad, sz⟩ := m
  obtain ⟨pqa, pqc, paa, pac, psa, psc, pda, pdc⟩ := p
  simp only [mv, cellsM] at *
  go_enter Tryz.func4, Tryz.ntmps4
  go_wp2_with fail
  refine (awake5_yes _ (HL.out.below B0.out)).mono ?_; rintro e w1 ⟨rfl, hb1⟩
  have B1 : Hid (Below w.heap.size w w1) := bel_trans B0.out hb1
  have X1 : Hid (_) := hbel.out _ _ X0.out hb1
  clear hb1 B0 X0
  obtain ⟨c0, c1, c2, c3, c4, c5, c6, c7, c8, c9, c10, c11⟩ := hcell.out _ X1.out
  go_wp2_with fail
  refine (HP.out _ B1.out).mono ?_; rintro e w2 ⟨rfl, hb2⟩
  have B2 : Hid (Below w.heap.size w w2) := bel_trans B1.out hb2
  have X2 : Hid (_) := hbel.out _ _ X1.out hb2
  clear hb2 c0 c1 c2 c3 c4 c5 c6 c7 c8 c9 c10 c11 B1 X1 HP
  obtain ⟨c0, c1, c2, c3, c4, c5, c6, c7, c8, c9, c10, c11⟩ := hcell.out _ X2.out
  go_wp2_with (go_at_call 12; refine (num_any _ _).mono ?_; rintro e w7 ⟨rfl, rfl⟩)
  refine (HY.out _ B2.out).mono ?_; rintro e w3 ⟨rfl, hb3⟩
  have B3 : Hid (Below w.heap.size w w3) := bel_trans B2.out hb3
  clear hb3 c0 c1 c2 c3 c4 c5 c6 c7 c8 c9 c10 c11 B2
  go_wp2
  go_ret
  exact ⟨rfl, B3.out⟩

set_option maxHeartbeats 2000000 in
theorem walk_yes (m : Msg) (p : Pl) (a : Int) (w : World) (hl : MsgLies w m p) (hf : MsgFits m) (hL : Laid w) (h : MayM m) : Calls Tryz.prog 4 #[mv m p, .int .i64 a] w fun e w' => e = .returned (.bool true) ∧ Below w.heap.size w w' := by
  obtain ⟨I, hI, hIl⟩ := pick_mod a 600 (by omega) (by omega)
  have HP : Hid (∀ w', Below w.heap.size w w' → _) := fun w' hb => dPut_is m p 65535 _ _ w' hf (hl.below hb) (hL.below hb) (putM_max h)
  obtain ⟨hg, l12, l60⟩ := getM_written h
  have HG : Hid (∀ w', Below w.heap.size w w' → _) := fun w' hb => dGet_yes (mk (writtenM m)) m w' (by rw [size_mk]; omega) (hL.below hb) hg
  have HS : Hid (∀ w' q, Below w.heap.size w w' → MsgLies w' m q → _) := fun w' q hb hq => sameDns_c m q p w' (by have := h.ql; omega) (by have := h.anl; omega) (by have := h.svl; omega) (by have := h.adl; omega) hq (hl.below hb)
  have HT : Hid (∀ w', Below w.heap.size w w' → _) := fun w' hb => dPut_c m p (12 + I) w' hf (hl.below hb) (hL.below hb)
  have HC : Hid (((mk (writtenM m)).size ≤ 12 + I ∧ putM m (12 + I) = (mk (writtenM m), 0)) ∨ (¬ (mk (writtenM m)).size ≤ 12 + I ∧ putM m (12 + I) = (mk (writtenM (cutM m)), 0) ∧ (mk (writtenM (cutM m))).size ≤ 12 + I) ∨ (¬ (mk (writtenM m)).size ≤ 12 + I ∧ putM m (12 + I) = (⟨#[]⟩, 501))) := by
    have e := putM_yes h (k := 12 + I) (by omega) (by omega)
    rw [size_mk, size_mk]
    by_cases a1 : ((writtenM m).length : Int) ≤ 12 + I
    · rw [if_pos a1] at e; exact .inl ⟨by omega, e⟩
    · rw [if_neg a1] at e
      by_cases a2 : ((writtenM (cutM m)).length : Int) ≤ 12 + I
      · rw [if_pos a2] at e; exact .inr (.inl ⟨by omega, e, by omega⟩)
      · rw [if_neg a2] at e; exact .inr (.inr ⟨by omega, e⟩)
  obtain ⟨hgc, _, l60c⟩ := getM_written (mayM_cut h)
  have HG2 : Hid (∀ w', Below w.heap.size w w' → _) := fun w' hb => dGet_yes (mk (writtenM (cutM m))) (cutM m) w' (by rw [size_mk]; omega) (hL.below hb) hgc
  have HQ : Hid (∀ w' q, Below w.heap.size w w' → QuesLie w' q m.qs → ∀ c, _) := fun w' q hb hq c => sameQs_c q p.qa m.qs.length m.qs.length c p.qc m.qs w' rfl rfl (by have := h.ql; omega) hq (hl.q.below hb)
  have HL : Hid (Laid w) := hL
  have B0 : Hid (Below w.heap.size w (w.alloc (.cells (cellsM m p) 25))) := (Below.refl w.heap.size w).alloc (Nat.le_refl _) _
  have X0 : Hid (BoxM (w.alloc (.cells (cellsM m p) 25)) w.heap.size m p) := BoxM.new w m p
  have hbel : Hid (∀ w' w'', BoxM w' w.heap.size m p → Below w'.heap.size w' w'' → BoxM w'' w.heap.size m p) := fun w' w'' h1 h2 => h1.below h2
  have hcell : Hid (∀ w', BoxM w' w.heap.size m p → _) := fun w' h => h.all
  have l60' : (mk (writtenM m)).size ≤ 60000 := by rw [size_mk]; omega
  clear hl hf hL h hg hgc l12 l60 l60c
  generalize putM m (12 + I) = R at *
  obtain ⟨T, G⟩ := R
  generalize mk (writtenM m) = S at *
  generalize mk (writtenM (cutM m)) = C at *
  simp only [cutM, Prod.mk.injEq] at *
  obtain ⟨id, rsp, op, au, tr, re, co, qs, an, sv, ad, sz⟩ := m
  obtain ⟨pqa, pqc, paa, pac, psa, psc, pda, pdc⟩ := p
  simp only [mv, cellsM] at *
  go_enter Tryz.func4, Tryz.ntmps4
  go_wp2_with fail
  refine (awake5_yes _ (HL.out.below B0.out)).mono ?_; rintro e w1 ⟨rfl, hb1⟩
  have B1 : Hid (Below w.heap.size w w1) := bel_trans B0.out hb1
  have X1 : Hid (_) := hbel.out _ _ X0.out hb1
  clear hb1 B0 X0
  obtain ⟨c0, c1, c2, c3, c4, c5, c6, c7, c8, c9, c10, c11⟩ := hcell.out _ X1.out
  go_wp2_with fail
  refine (HP.out _ B1.out).mono ?_; rintro e w2 ⟨rfl, hb2⟩
  have B2 : Hid (Below w.heap.size w w2) := bel_trans B1.out hb2
  have X2 : Hid (_) := hbel.out _ _ X1.out hb2
  clear hb2 c0 c1 c2 c3 c4 c5 c6 c7 c8 c9 c10 c11 B1 X1 HP
  go_wp2_with (go_at_call 12; refine (num_any _ _).mono ?_; rintro e w7 ⟨rfl, rfl⟩)
  refine (HG.out _ B2.out).mono ?_; rintro e w3 ⟨⟨p1, rfl, hR3⟩, hb3⟩
  have B3 : Hid (Below w.heap.size w w3) := bel_trans B2.out hb3
  have X3 : Hid (_) := hbel.out _ _ X2.out hb3
  have R3 : Hid (_) := hR3.lies
  clear hb3 hR3 B2 X2
  obtain ⟨qqa, qqc, qaa, qac, qsa, qsc, qda, qdc⟩ := p1
  have B4 : Hid (Below w3.heap.size w3 (w3.alloc (.cells #[.int .i64 id, .bool rsp, .int .i64 op, .bool au, .bool tr, .bool re, .int .i64 co, .slice qqa qs.length qqc, .slice qaa an.length qac, .slice qsa sv.length qsc, .slice qda ad.length qdc, .int .i64 sz] 25))) := (Below.refl _ _).alloc (Nat.le_refl _) _
  have X4 : Hid (_) := hbel.out _ _ X3.out B4.out
  obtain ⟨c0, c1, c2, c3, c4, c5, c6, c7, c8, c9, c10, c11⟩ := hcell.out _ X4.out
  go_wp2_with (go_at_call 12; refine (num_any _ _).mono ?_; rintro e w7 ⟨rfl, rfl⟩)
  have B4' : Hid (_) := bel_trans B3.out B4.out
  refine (HS.out _ ⟨qqa, qqc, qaa, qac, qsa, qsc, qda, qdc⟩ B4'.out (R3.out.below B4.out)).mono ?_; rintro e w5 ⟨rfl, hb5⟩
  have B5 : Hid (Below w.heap.size w w5) := bel_trans B4'.out hb5
  have X5 : Hid (_) := hbel.out _ _ X4.out hb5
  clear hb5 B4' B4 X4 B3 X3 R3 c0 c1 c2 c3 c4 c5 c6 c7 c8 c9 c10 c11 HS
  obtain ⟨c0, c1, c2, c3, c4, c5, c6, c7, c8, c9, c10, c11⟩ := hcell.out _ X5.out
  go_wp2_with fail
  refine (HT.out _ B5.out).mono ?_; rintro e w6 ⟨rfl, hb6⟩
  have B6 : Hid (Below w.heap.size w w6) := bel_trans B5.out hb6
  have X6 : Hid (_) := hbel.out _ _ X5.out hb6
  clear hb6 B5 X5 c0 c1 c2 c3 c4 c5 c6 c7 c8 c9 c10 c11 HT
  rcases HC.out with ⟨hsz, rfl, rfl⟩ | ⟨hsz, ⟨rfl, rfl⟩, hcz⟩ | ⟨hsz, rfl, rfl⟩
  · have hk1 : (T.size : Int) ≤ 12 + I := by omega
    clear HC
    go_wp2_with (go_at_call 12; refine (num_any _ _).mono ?_; rintro e w7 ⟨rfl, rfl⟩)
    refine (HG.out _ B6.out).mono ?_; rintro e w8 ⟨⟨p2, rfl, _⟩, hb8⟩
    have B8 : Hid (Below w.heap.size w w8) := bel_trans B6.out hb8
    clear hb8 B6 X6 HG HG2 HQ hcell hbel
    obtain ⟨rqa, rqc, raa, rac, rsa, rsc, rda, rdc⟩ := p2
    go_wp2
    go_ret
    exact ⟨rfl, B8.out.alloc B8.out.size _⟩
  · have hk1 : ¬ (S.size : Int) ≤ 12 + I := by omega
    have hk2 : (T.size : Int) ≤ 12 + I := by omega
    clear HC
    go_wp2_with (go_at_call 12; refine (num_any _ _).mono ?_; rintro e w7 ⟨rfl, rfl⟩)
    refine (HG2.out _ B6.out).mono ?_; rintro e w8 ⟨⟨p2, rfl, hR8⟩, hb8⟩
    have B8 : Hid (Below w.heap.size w w8) := bel_trans B6.out hb8
    have X8 : Hid (_) := hbel.out _ _ X6.out hb8
    have R8' := hR8.lies.q
    clear hb8 B6 X6 HG HG2 hR8
    obtain ⟨rqa, rqc, raa, rac, rsa, rsc, rda, rdc⟩ := p2
    have R8 : Hid (QuesLie w8 rqa qs) := R8'
    clear R8'
    simp only [List.length_nil] at *
    have B9 : Hid (Below w8.heap.size w8 (w8.alloc (.cells #[.int .i64 id, .bool rsp, .int .i64 op, .bool au, .bool true, .bool re, .int .i64 co, .slice rqa qs.length rqc, .slice raa 0 rac, .slice rsa 0 rsc, .slice rda 0 rdc, .int .i64 sz] 25))) := (Below.refl _ _).alloc (Nat.le_refl _) _
    have X9 : Hid (_) := hbel.out _ _ X8.out B9.out
    have Q9 : Hid (QuesLie _ rqa qs) := R8.out.below B9.out
    have B9' : Hid (Below w.heap.size w _) := bel_trans B8.out B9.out
    obtain ⟨c0, c1, c2, c3, c4, c5, c6, c7, c8, c9, c10, c11⟩ := hcell.out _ X9.out
    go_wp2_with (go_at_call 12; refine (num_any _ _).mono ?_; rintro e w7 ⟨rfl, rfl⟩)
    refine (HQ.out _ rqa B9'.out Q9.out rqc).mono ?_; rintro e w10 ⟨rfl, hb10⟩
    have B10 : Hid (Below w.heap.size w w10) := bel_trans B9'.out hb10
    have X10 : Hid (_) := hbel.out _ _ X9.out hb10
    have y11 : w10.cell? ⟨w8.heap.size, 11, none⟩ = some (.int .i64 sz) := (hb10.cell (p := ⟨w8.heap.size, 11, none⟩) (by simp)).trans (new_cell _ _ _ 11 _ rfl)
    clear hb10 c0 c1 c2 c3 c4 c5 c6 c7 c8 c9 c10 c11 B9 X9 B9' Q9 R8 X8 B8 HQ
    obtain ⟨c0, c1, c2, c3, c4, c5, c6, c7, c8, c9, c10, c11⟩ := hcell.out _ X10.out
    go_wp2
    go_ret
    exact ⟨ret_bool (by simp), B10.out⟩
  · have hk1 : ¬ (S.size : Int) ≤ 12 + I := by omega
    clear HC
    go_wp2_with (go_at_call 12; refine (num_any _ _).mono ?_; rintro e w7 ⟨rfl, rfl⟩)
    go_ret
    exact ⟨ret_bool (by simp), B6.out⟩

theorem walk (m : Msg) (p : Pl) (a : Int) (w : World) (hl : MsgLies w m p) (hf : MsgFits m) (_wa : (Lit.int .i64 a).wf = true) (hL : Laid w) : Calls Tryz.prog 4 #[mv m p, .int .i64 a] w fun e w' => e = .returned (.bool true) ∧ Below w.heap.size w w' := by
  cases h : mayM m with
  | false => exact walk_no m p a w hl hf hL h
  | true => exact walk_yes m p a w hl hf hL ((mayM_iff m).1 h)

theorem own : ownKnob Tryz.prog.godebug = none := by kernel_rfl
theorem laidOut : laidOutB Tryz.prog = true := by kernel_rfl
theorem gTab : Tryz.prog.globalNamed "pinfold/rr.soaTimes" = some 0 := by kernel_rfl
theorem gTabType : (Tryz.prog.globals[0]?).map (·.type) = some 115 := by kernel_rfl
theorem cellsTab : Tryz.prog.cellsOf 115 = 4 := by kernel_rfl
theorem cellsInt : Tryz.prog.cellsOf 3 = 1 := by kernel_rfl
/-- What the row's list gives. -/
theorem table {W : World} (h : laidMetH Tryz.prog Rows.dnsBackRow.laid W) : Laid W := by
  have t : Lib.TabIs Tryz.prog W "pinfold/rr.soaTimes" .i64 [60, 60, 600, 60] := Lib.tabIs_of_head (rest := []) gTab gTabType Tryz.underlying115 Tryz.underlying3 cellsInt cellsTab h
  exact ⟨t.cell gTab 0 (by decide), t.cell gTab 1 (by decide), t.cell gTab 2 (by decide), t.cell gTab 3 (by decide)⟩
/-- A world for the witness: the table holds what its initialiser lays. -/
noncomputable def laidWorld (os : Os) : World :=
  { World.holding Tryz.prog os ⟨#[], #[], []⟩ with heap := (World.holding Tryz.prog os ⟨#[], #[], []⟩).heap.modify 0 fun
      | .cells _ t frozen => .cells #[.int .i64 60, .int .i64 60, .int .i64 600, .int .i64 60] t frozen
      | o => o }
theorem laid_met (os : Os) : laidMet Tryz.prog Rows.dnsBackRow.laid ((laidWorld os).forCall (fun _ _ => 0) ⟨#[], #[.agg #[.int .i64 0, .bool false, .int .i64 0, .bool false, .bool false, .bool false, .int .i64 0, .slice none 0 0, .slice none 0 0, .slice none 0 0, .slice none 0 0, .int .i64 0], .int .i64 0], []⟩).memory :=
  laidMet_of_run' 8 (by kernel_rfl) (by kernel_rfl)
theorem reads (os : Os) {H : Type} (enc : TypeId × Value → H) : ∃ places, DataW.whole enc Tryz.prog ((laidWorld os).forCall (fun _ _ => 0) ⟨#[], #[.agg #[.int .i64 0, .bool false, .int .i64 0, .bool false, .bool false, .bool false, .int .i64 0, .slice none 0 0, .slice none 0 0, .slice none 0 0, .slice none 0 0, .int .i64 0], .int .i64 0], []⟩).memory Tryz.f4.params.toList Rows.dnsBackSpec.vars false (#[.agg #[.int .i64 0, .bool false, .int .i64 0, .bool false, .bool false, .bool false, .int .i64 0, .slice none 0 0, .slice none 0 0, .slice none 0 0, .slice none 0 0, .int .i64 0], .int .i64 0] : Array Value).toList 8 = some ([.agg [.lit (.int .i64 0), .lit (.bool false), .lit (.int .i64 0), .lit (.bool false), .lit (.bool false), .lit (.bool false), .lit (.int .i64 0), .nil, .nil, .nil, .nil, .lit (.int .i64 0)], .lit (.int .i64 0)], [], places) :=
  ⟨[], by kernel_rfl⟩

/-! ### The row's step -/
set_option maxRecDepth 100000 in
theorem lifted (os : Os) (started : os.Started) (H : Type) (enc : TypeId × Value → H) (F : Stop.Interp) :
    ReturnsInHanded {} Tryz.checked os 4 .any ((OpenSpec.ofChange Rows.dnsBackSpec).preRow enc Tryz.prog Tryz.f4 Rows.dnsBackRow.domain false Rows.dnsBackRow.laid) (((OpenSpec.ofChange Rows.dnsBackSpec).at F).post enc Tryz.prog Tryz.f4 false true false false) := by
  obtain ⟨places, hx⟩ := reads os enc
  refine returnsInHanded_of_row (C := Tryz.checked) (s := OpenSpec.ofChange Rows.dnsBackSpec) own started (by kernel_rfl) Tryz.func4
    (witness_row_at (enc := enc) (C := Tryz.checked) false (laidWorld os) #[.agg #[.int .i64 0, .bool false, .int .i64 0, .bool false, .bool false, .bool false, .int .i64 0, .slice none 0 0, .slice none 0 0, .slice none 0 0, .slice none 0 0, .int .i64 0], .int .i64 0] rfl (by kernel_rfl) (by kernel_rfl) (by kernel_rfl)
      (OpenSpec.preRow_of_cond 8 hx (by kernel_rfl) (fun k hk => by cases hk) (by kernel_rfl) (laid_met os))) ?_
  intro W base args ds gs before hval0 hW _ hcond hsz0 hL _ _
  have hLaid := table hL
  have hval : ∀ (j : Nat) t v, Tryz.f4.params[j]? = some t → args[j]? = some v → Value.okWide Tryz.prog W .any base t v := hval0
  have hsz : (DataW.weightsEach Tryz.prog (Tryz.f4.params.toList ++ Rows.dnsBackSpec.plain.varTypes Tryz.prog) (ds ++ gs)).all (· ≤ reachBytes) = true := hsz0
  have hW' := hW
  obtain ⟨p, q, hA0, hV, rfl, _, _⟩ := hW
  have hA : DataW.TrodAll enc Tryz.prog W 0 (fun _ => true) true Tryz.f4.params.toList args.toList ds p := hA0
  rw [Tryz.params4] at hA hval hsz
  obtain ⟨v0, vs0, d0, ds0, p0, q0, hargs, rfl, rfl, h0, r0⟩ := trodAll_cons hA
  obtain ⟨v1, vs1, d1, ds1, p1, q1, rfl, rfl, rfl, h1, r1⟩ := trodAll_cons r0
  obtain ⟨rfl, rfl, rfl⟩ := trodAll_nil r1
  obtain rfl : args = #[v0, v1] := by cases args; simp_all
  obtain ⟨rfl, rfl⟩ := trodVars_none hV
  have k0 := h0
  have lt0 : ∀ x ∈ p0, x.block < W.heap.size := by obtain ⟨m, hm⟩ := k0; exact DataW.trod_lt m _ _ _ hm
  obtain ⟨a0, P0, rfl, w0, f0, u0⟩ := open_msg (hval 0 25 v0 rfl rfl) h0
  obtain ⟨a1, rfl, rfl, rfl, w1⟩ := open_int Tryz.underlying3 (hval 1 3 v1 rfl rfl) h1
  clear hA0 hval0 hsz0 hcond
  refine (walk a0 P0 a1 W w0 f0 w1 hLaid).mono fun e W' ⟨he, bel⟩ => ?_
  subst he
  exact ⟨_, rfl, _, _, _, [], _, [], hW', trodAll_mk1 (shut_bool Tryz.underlying4 _), (trodAll_cons_mk (Below.trod laidOut (by kernel_rfl) (of_decide_eq_true (by kernel_rfl)) k0 bel lt0) (trodAll_cons_mk (shut_int Tryz.underlying3 w1) trodAll_mk0)), rfl, bel.frame _, fun h => by cases h⟩

theorem said : Rows.DnsBackSaid :=
  OpenClaim.holds_of_cond 4 Tryz.f4 rfl rfl rfl rfl rfl rfl rfl ⟨rfl, rfl, rfl, rfl, rfl⟩ rfl rfl rfl rfl rfl (by kernel_rfl) Tryz.func4 (by kernel_rfl)
    (of_decide_eq_true (by kernel_rfl)) (by unfold Func.isWrapper; first | (rw [if_pos (by decide +kernel)]; kernel_rfl) | (rw [if_neg (by decide +kernel)]; exact ⟨rfl, rfl⟩))
    (fun os started H enc _ F => by rw [OpenClaim.pre_eq_preRow]; exact lifted os started H enc F)
/-- No parameter wants a stand-in. -/
theorem plain (f : FuncId) (fn : Func) (hf : Tryz.pinned.checked.prog.funcNamed "pinfold/pinfoldlaw5.DnsBack" = some f) (hfn : Tryz.pinned.checked.prog.funcs[f]? = some fn) :
    false = Tryz.pinned.checked.prog.looks [] ∧ ∀ (j : Nat) t, fn.params[j]? = some t → Tryz.pinned.checked.prog.wantsStandIn t = false := by
  obtain rfl : f = 4 := Option.some.inj ((show Tryz.prog.funcNamed "pinfold/pinfoldlaw5.DnsBack" = some 4 by kernel_rfl).symm.trans hf) |>.symm
  obtain rfl : fn = Tryz.f4 := (Option.some.inj (Tryz.func4.symm.trans hfn)).symm
  refine ⟨by kernel_rfl, fun j t ht => ?_⟩
  rw [Tryz.params4] at ht
  have hm := Array.mem_of_getElem? ht
  simp at hm
  repeat' (refine Or.elim hm (fun hm => ?_) (fun hm => ?_))
  all_goals (subst hm; exact (show Tryz.prog.wantsStandIn _ = false by kernel_rfl))
/-- The given statement. -/
theorem card : Rows.DnsBackCardSaid :=
  Claim7.holds_tied_plain_at .later [] _ _ _ _ said (fun _ h => by cases h) (by kernel_rfl) (fun _ h => by cases h) dnsBack_row_tie rfl ⟨rfl, rfl⟩ (by kernel_rfl) rfl plain (by kernel_rfl)

end dnsBack
theorem dnsBack_proved : Rows.DnsBackCardSaid := dnsBack.card
end Go.Proofs.YtodjgbdjkncpgaaGreatDoor
