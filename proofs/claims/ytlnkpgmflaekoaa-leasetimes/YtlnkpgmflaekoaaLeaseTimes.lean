/-
  Proved here: pinfoldlaw12.LeaseTimes answers true for every lease and number: what may be is live until its time, not at it, nor behind it; what is free never (P12.1).
  Conditions: none but the row's own.
-/
import Derived.Test.YtlnkpgmflaekoaaAwake12
import Derived.Test.YtlnkpgmflaekoaaLeaOpen
import Derived.OpenShut
import Derived.ShutString
import Derived.ChangeOld
import Derived.SizedLaws
import Derived.Carry
import Derived.RegionTactic
import Derived.Deep.RegionHeld3
import Derived.Deep.QuietTactic
import Derived.BigQuiet
import Derived.Deep.DeepCutAuto
import Derived.Deep.CutRange
namespace Go.Proofs.Ytlnkpgmflaekoaa.leaseTimes
open Go.ChangeShapes Go.WideShapes Go.ChangeAt Go.RowKit Go.Pin Go.PlainAid Go.ChangeMaps

set_option maxRecDepth 100000 in
set_option maxHeartbeats 4000000 in
theorem walk (l : Lea) (a1 : Int) (w : World) (hl : IsLea l) (_w1 : (Lit.int .i64 a1).wf = true) :
    Calls Try.prog 5 #[lv l, .int .i64 a1] w fun e w' => e = .returned (.bool true) ∧ Below w.heap.size w w' := by
  obtain ⟨m, hm⟩ : ∃ m, mayLea l = m := ⟨_, rfl⟩
  have HM : Hid (∀ w, _) := fun w => lMay_is l m w hl.n hm
  have HL : Hid (∀ t b w, liveLea l t = b → _) := fun t b w h => lLive_is l t b w hl.n h
  obtain ⟨w0, hw0⟩ : ∃ w0, w.alloc (.cells (cellsL l) 23) = w0 := ⟨_, rfl⟩
  have A0 : Hid (Below w.heap.size w w0) := by rw [← hw0]; exact (Below.refl _ _).alloc (Nat.le_refl _) _
  have BX : Hid (BoxL w0 w.heap.size l) := by rw [← hw0]; exact BoxL.new w l
  have hcell : Hid (∀ (w' : World), Below w0.heap.size w0 w' → _) := fun w' hb => (BX.out.below hb).all
  have HI : Hid (mayLea l = m) := hm
  have HLv : Hid (∀ t, liveLea l t = (m && decide (l.st ≠ 0) && decide (l.u > t))) := fun t => by rw [liveLea_is, hm]
  clear hl _w1 BX hm
  simp only [lv, cellsL] at *
  have Hw0 : Hid (_ = w0) := hw0
  clear hw0
  go_enter Try.func5, Try.ntmps5
  go_upto_region 1 with fail
  rw [Hw0.out]
  clear Hw0
  go_wp2_with fail
  refine (awake12_yes _).mono ?_; rintro e x1 ⟨rfl, hb⟩
  have B1 : Hid (Below w0.heap.size w0 x1) := hb
  obtain ⟨c0, c1, c2, c3, c4, c5⟩ := hcell.out _ B1.out
  clear hb
  go_wp2_with fail
  refine (HM.out _).mono ?_; rintro e x2 ⟨rfl, hb⟩
  have B2 : Hid (Below w0.heap.size w0 x2) := bel_trans B1.out hb
  clear hb c0 c1 c2 c3 c4 c5 B1 HM
  obtain ⟨c0, c1, c2, c3, c4, c5⟩ := hcell.out _ B2.out
  cases m
  · have L1 : liveLea l a1 = false := by rw [HLv.out]; rfl
    go_wp2_with fail
    refine (HL.out _ _ _ L1).mono ?_; rintro e x3 ⟨rfl, hb⟩
    go_wp2
    go_ret
    exact ⟨rfl, bel_trans A0.out (bel_trans B2.out hb)⟩
  by_cases hs : l.st = 0
  · have hd : (l.st == 0) = true := by simpa using hs
    have L1 : ∀ t, liveLea l t = false := fun t => by rw [HLv.out]; simp [hs]
    clear hs
    go_wp2_with fail
    refine (HL.out _ _ _ (L1 _)).mono ?_; rintro e x3 ⟨rfl, hb⟩
    have B3 : Hid (Below w0.heap.size w0 x3) := bel_trans B2.out hb
    clear hb c0 c1 c2 c3 c4 c5
    obtain ⟨c0, c1, c2, c3, c4, c5⟩ := hcell.out _ B3.out
    go_wp2_with fail
    refine (HL.out _ _ _ (L1 _)).mono ?_; rintro e x4 ⟨rfl, hb⟩
    go_wp2
    go_ret
    exact ⟨rfl, bel_trans A0.out (bel_trans B3.out hb)⟩
  have hd : decide (l.st = 0) = false := by simpa using hs
  have hu : 0 ≤ l.u ∧ l.u ≤ 1099511627776 := by
    have := (mayLea_iff l).1 HI.out
    exact ⟨this.1.2.2.2.2.2.1, this.1.2.2.2.2.2.2⟩
  have e1 : IntKind.i64.wrap (l.u - 1) = l.u - 1 := IntWalk.i64_in _ ⟨by omega, by omega⟩
  have e2 : IntKind.i64.wrap (l.u + 1) = l.u + 1 := IntWalk.i64_in _ ⟨by omega, by omega⟩
  have K1 : Hid (liveLea l (l.u - 1) = true) := by show _ = _; rw [HLv.out]; simp [hs]; omega
  have K2 : Hid (liveLea l l.u = false) := by show _ = _; rw [HLv.out]; simp
  have K3 : Hid (liveLea l (l.u + 1) = false) := by show _ = _; rw [HLv.out]; simp [hs]; omega
  have K4 : Hid (liveLea l a1 = decide (a1 < l.u)) := by show _ = _; rw [HLv.out]; simp [hs]
  have HS : Hid (∀ w', Below w0.heap.size w0 w' → (w'.cell? ⟨w.heap.size, 0, none⟩ = some (.int .i64 l.h) ∧ w'.cell? ⟨w.heap.size, 1, none⟩ = some (.int .i64 l.st) ∧ w'.cell? ⟨w.heap.size, 2, none⟩ = some (.string l.c) ∧ w'.cell? ⟨w.heap.size, 3, none⟩ = some (.int .i64 l.u) ∧ w'.cell? ⟨w.heap.size, 4, none⟩ = some (.string l.n) ∧ w'.cell? ⟨w.heap.size, 5, none⟩ = some (.bool l.won)) ∧ Below w0.heap.size w0 w') := fun w' hb => ⟨hcell.out _ hb, hb⟩
  clear hcell HLv HI
  go_upto_region 7 with fail
  go_region_held3 (fun w' => (w'.cell? ⟨w.heap.size, 0, none⟩ = some (.int .i64 l.h) ∧ w'.cell? ⟨w.heap.size, 1, none⟩ = some (.int .i64 l.st) ∧ w'.cell? ⟨w.heap.size, 2, none⟩ = some (.string l.c) ∧ w'.cell? ⟨w.heap.size, 3, none⟩ = some (.int .i64 l.u) ∧ w'.cell? ⟨w.heap.size, 4, none⟩ = some (.string l.n) ∧ w'.cell? ⟨w.heap.size, 5, none⟩ = some (.bool l.won)) ∧ Below w0.heap.size w0 w')
    (first | exact HS.out _ B2.out | exact HS.out _ B2.out.drew | exact HS.out _ sB)
    (first
      | (go_at_call 12; have sB := (‹_ ∧ Below w0.heap.size w0 _›).2; refine (num_any _ _).mono ?_; rintro e wN ⟨rfl, rfl⟩)
      | (go_at_call 9; have tB := (‹_ ∧ Below w0.heap.size w0 _›).2; (first | with_reducible refine (HL.out _ _ _ K1.out).mono ?_ | with_reducible refine (HL.out _ _ _ K2.out).mono ?_ | with_reducible refine (HL.out _ _ _ K3.out).mono ?_ | with_reducible refine (HL.out _ _ _ K4.out).mono ?_); rintro e wN ⟨rfl, hbN⟩; have sB := bel_trans tB hbN; clear tB hbN))
  all_goals
    have sF := (‹_ ∧ Below w0.heap.size w0 _›).2
    go_wp2
    go_ret
    exact ⟨ret_bool (by simp), bel_trans A0.out sF⟩

theorem own : ownKnob Try.prog.godebug = none := by kernel_rfl
theorem laidOut : laidOutB Try.prog = true := by kernel_rfl

/-! ### The row's step -/
set_option maxRecDepth 100000 in
theorem lifted (os : Os) (started : os.Started) (H : Type) (enc : TypeId × Value → H) :
    ReturnsInHanded {} Try.checked os 5 .any (Rows.leaseTimesSpec.pre6 enc Try.prog Try.f5 Rows.leaseTimesRow.domain false) (Rows.leaseTimesSpec.post enc Try.prog Try.f5 false true false false) := by
  refine returnsInHanded_of_change_sized (C := Try.checked) own started (by kernel_rfl) Try.func5
    (ChangeSpec.witness6 (enc := enc) (C := Try.checked) false ⟨#[], #[.agg #[.int .i64 0, .int .i64 0, .string ByteArray.empty, .int .i64 0, .string ByteArray.empty, .bool false], .int .i64 0], []⟩ 8 (by kernel_rfl) (by kernel_rfl) (by kernel_rfl) (by kernel_rfl)) ?_
  intro W base args ds gs before hval0 hW _ hsz0 _
  have hval : ∀ (j : Nat) t v, Try.f5.params[j]? = some t → args[j]? = some v → Value.okWide Try.prog W .any base t v := hval0
  have hsz : (DataW.weightsEach Try.prog (Try.f5.params.toList ++ Rows.leaseTimesSpec.plain.varTypes Try.prog) (ds ++ gs)).all (· ≤ reachBytes) = true := hsz0
  have hW' := hW
  obtain ⟨p, q, hA0, hV, rfl, _, _⟩ := hW
  have hA : DataW.TrodAll enc Try.prog W 0 (fun _ => true) true Try.f5.params.toList args.toList ds p := hA0
  rw [Try.params5] at hA hval hsz
  obtain ⟨v0, vs0, d0, ds0, p0, q0, hargs, rfl, rfl, h0, r0⟩ := trodAll_cons hA
  obtain ⟨v1, vs1, d1, ds1, p1, q1, rfl, rfl, rfl, h1, r1⟩ := trodAll_cons r0
  obtain ⟨rfl, rfl, rfl⟩ := trodAll_nil r1
  obtain rfl : args = #[v0, v1] := by cases args; simp_all
  obtain ⟨rfl, rfl⟩ := trodVars_none hV
  have k0 := h0
  have lt0 : ∀ x ∈ p0, x.block < W.heap.size := by obtain ⟨m, hm⟩ := k0; exact DataW.trod_lt m _ _ _ hm
  obtain ⟨a0, rfl, w0, e0⟩ := open_lea (hval 0 23 v0 rfl rfl) h0
  obtain ⟨a1, rfl, rfl, rfl, w1⟩ := open_int Try.underlying3 (hval 1 3 v1 rfl rfl) h1
  clear hA0 hval0 hsz0
  refine (walk a0 a1 W w0 w1).mono fun e W' ⟨he, bel⟩ => ?_
  subst he
  exact ⟨_, rfl, _, _, _, [], _, [], hW', trodAll_mk1 (shut_bool Try.underlying4 _), (trodAll_cons_mk (Below.trod laidOut (by kernel_rfl) (of_decide_eq_true (by kernel_rfl)) k0 bel lt0) (trodAll_cons_mk (shut_int Try.underlying3 w1) trodAll_mk0)), rfl, bel.frame _, fun h => by cases h⟩

theorem over : Rows.leaseTimesRow.holds Try.pinned (OpenSpec.ofChange Rows.leaseTimesSpec) :=
  OpenClaim.holds_of_wide 5 Try.f5 rfl rfl rfl rfl rfl rfl rfl ⟨rfl, rfl, rfl, rfl, rfl⟩ rfl rfl rfl rfl rfl (by kernel_rfl) Try.func5 (by kernel_rfl)
    (of_decide_eq_true (by kernel_rfl)) (by unfold Func.isWrapper; first | (rw [if_pos (by decide +kernel)]; kernel_rfl) | (rw [if_neg (by decide +kernel)]; exact ⟨rfl, rfl⟩))
    (fun os started H enc _ => lifted os started H enc)

/-- The given statement. -/
theorem proved : Rows.LeaseTimesSaid := over

end Go.Proofs.Ytlnkpgmflaekoaa.leaseTimes
namespace Go.Proofs.Ytlnkpgmflaekoaa
theorem leaseTimes_proved : Rows.LeaseTimesSaid := leaseTimes.proved
#print axioms leaseTimes_proved
end Go.Proofs.Ytlnkpgmflaekoaa
