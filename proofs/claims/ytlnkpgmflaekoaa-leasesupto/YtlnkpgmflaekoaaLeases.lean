/-
  Proved here: pinfoldlaw12.Leases answers true for every lease and number: May and Live answer as the document's own reckoning (P12.1).
  Conditions: the arguments' bulk is at most 1048576 (the second form).
-/
import Derived.Test.YtlnkpgmflaekoaaAwake12
import Derived.Test.YtlnkpgmflaekoaaLeaOpen
import Derived.Test.YtlnkpgmflaekoaaLeaRef
import Derived.OpenShut
import Derived.ShutString
import Derived.ChangeOld
import Derived.SizedLaws
import Derived.Carry
import Derived.RegionTactic
import Derived.Deep.RegionHeld3
import Derived.Deep.QuietTactic
import Derived.BigQuiet
import Derived.Deep.DeepCutAuto
import Derived.Deep.CutRange
import Derived.Deep.CondSized
import Derived.JoinedCond
namespace Go.Proofs.Ytlnkpgmflaekoaa.leases
open Go.ChangeShapes Go.WideShapes Go.ChangeAt Go.RowKit Go.Pin Go.PlainAid Go.ChangeMaps

set_option maxRecDepth 100000 in
set_option maxHeartbeats 4000000 in
theorem walk (l : Lea) (a1 : Int) (w : World) (hl : IsLea l) (hs : l.c.size ≤ 1048576 ∧ l.n.size ≤ 1048576) (_w1 : (Lit.int .i64 a1).wf = true) :
    Calls Try.prog 3 #[lv l, .int .i64 a1] w fun e w' => e = .returned (.bool true) ∧ Below w.heap.size w w' := by
  obtain ⟨m, hm⟩ : ∃ m, mayLea l = m := ⟨_, rfl⟩
  obtain ⟨k, hk⟩ : ∃ k, liveLea l a1 = k := ⟨_, rfl⟩
  have H1 : Hid (∀ w, _) := fun w => lMay_is l m w hl.n hm
  have H2 : Hid (∀ w, _) := fun w => rLMay_is l m w hs.2 hm
  have H3 : Hid (∀ w, _) := fun w => lLive_is l a1 k w hl.n hk
  have H4 : Hid (∀ w, _) := fun w => rLLive_is l a1 k w hs.2 hk
  obtain ⟨w0, hw0⟩ : ∃ w0, w.alloc (.cells (cellsL l) 23) = w0 := ⟨_, rfl⟩
  have A0 : Hid (Below w.heap.size w w0) := by rw [← hw0]; exact (Below.refl _ _).alloc (Nat.le_refl _) _
  have BX : Hid (BoxL w0 w.heap.size l) := by rw [← hw0]; exact BoxL.new w l
  have HS : Hid (∀ w', Below w0.heap.size w0 w' → (w'.cell? ⟨w.heap.size, 0, none⟩ = some (.int .i64 l.h) ∧ w'.cell? ⟨w.heap.size, 1, none⟩ = some (.int .i64 l.st) ∧ w'.cell? ⟨w.heap.size, 2, none⟩ = some (.string l.c) ∧ w'.cell? ⟨w.heap.size, 3, none⟩ = some (.int .i64 l.u) ∧ w'.cell? ⟨w.heap.size, 4, none⟩ = some (.string l.n) ∧ w'.cell? ⟨w.heap.size, 5, none⟩ = some (.bool l.won)) ∧ Below w0.heap.size w0 w') := fun w' hb => ⟨(BX.out.below hb).all, hb⟩
  have B0 : Hid (Below w0.heap.size w0 w0) := Below.refl _ _
  clear hl hs _w1 BX hm hk
  simp only [lv, cellsL] at *
  have Hw0 : Hid (_ = w0) := hw0
  clear hw0
  go_enter Try.func3, Try.ntmps3
  go_upto_region 1 with fail
  rw [Hw0.out]
  clear Hw0
  go_region_held3 (fun w' => (w'.cell? ⟨w.heap.size, 0, none⟩ = some (.int .i64 l.h) ∧ w'.cell? ⟨w.heap.size, 1, none⟩ = some (.int .i64 l.st) ∧ w'.cell? ⟨w.heap.size, 2, none⟩ = some (.string l.c) ∧ w'.cell? ⟨w.heap.size, 3, none⟩ = some (.int .i64 l.u) ∧ w'.cell? ⟨w.heap.size, 4, none⟩ = some (.string l.n) ∧ w'.cell? ⟨w.heap.size, 5, none⟩ = some (.bool l.won)) ∧ Below w0.heap.size w0 w')
    (first | exact HS.out _ B0.out | exact HS.out _ B0.out.drew | exact HS.out _ sB)
    (first
      | (go_at_call 7; have tB := (‹_ ∧ Below w0.heap.size w0 _›).2; refine (H1.out _).mono ?_; rintro e wN ⟨rfl, hbN⟩; have sB := bel_trans tB hbN; clear tB hbN)
      | (go_at_call 8; have tB := (‹_ ∧ Below w0.heap.size w0 _›).2; refine (H2.out _).mono ?_; rintro e wN ⟨rfl, hbN⟩; have sB := bel_trans tB hbN; clear tB hbN)
      | (go_at_call 9; have tB := (‹_ ∧ Below w0.heap.size w0 _›).2; refine (H3.out _).mono ?_; rintro e wN ⟨rfl, hbN⟩; have sB := bel_trans tB hbN; clear tB hbN)
      | (go_at_call 10; have tB := (‹_ ∧ Below w0.heap.size w0 _›).2; refine (H4.out _).mono ?_; rintro e wN ⟨rfl, hbN⟩; have sB := bel_trans tB hbN; clear tB hbN)
      | (go_at_call 11; have tB := (‹_ ∧ Below w0.heap.size w0 _›).2; refine (awake12_yes _).mono ?_; rintro e wN ⟨rfl, hbN⟩; have sB := bel_trans tB hbN; clear tB hbN))
  all_goals
    have sF := (‹_ ∧ Below w0.heap.size w0 _›).2
    go_wp2
    go_ret
    exact ⟨rfl, bel_trans A0.out sF⟩

theorem own : ownKnob Try.prog.godebug = none := by kernel_rfl
theorem laidOut : laidOutB Try.prog = true := by kernel_rfl

/-! ### The row's step -/
set_option maxRecDepth 100000 in
theorem lifted (os : Os) (started : os.Started) (H : Type) (enc : TypeId × Value → H) (F : Stop.Interp) :
    ReturnsInHanded {} Try.checked os 3 .any ((Rows.OpenSpec.upto Rows.leasesSpec).pre6 enc Try.prog Try.f3 Rows.leasesUptoRow.domain false) (((Rows.OpenSpec.upto Rows.leasesSpec).at F).post enc Try.prog Try.f3 false true false false) := by
  refine returnsInHanded_of_cond (C := Try.checked) (s := Rows.OpenSpec.upto Rows.leasesSpec) (k := Rows.uptoSmall) rfl own started (by kernel_rfl) Try.func3
    (OpenSpec.witness (enc := enc) (C := Try.checked) (s := Rows.OpenSpec.upto Rows.leasesSpec) (k := Rows.uptoSmall) rfl false ⟨#[], #[.agg #[.int .i64 0, .int .i64 0, .string ByteArray.empty, .int .i64 0, .string ByteArray.empty, .bool false], .int .i64 0], []⟩ 8 (by kernel_rfl) (by kernel_rfl) (by kernel_rfl)
      (x := ([.agg [.lit (.int .i64 0), .lit (.int .i64 0), .lit (.string []), .lit (.int .i64 0), .lit (.string []), .lit (.bool false)], .lit (.int .i64 0)], [], [])) (by kernel_rfl) rfl (by kernel_rfl)) ?_
  intro W base args ds gs before hval0 hW _ hk _
  have hval : ∀ (j : Nat) t v, Try.f3.params[j]? = some t → args[j]? = some v → Value.okWide Try.prog W .any base t v := hval0
  have hW' := hW
  obtain ⟨p, q, hA0, hV, rfl, _, _⟩ := hW
  have hA : DataW.TrodAll enc Try.prog W 0 (fun _ => true) true Try.f3.params.toList args.toList ds p := hA0
  rw [Try.params3] at hA hval
  obtain ⟨v0, vs0, d0, ds0, p0, q0, hargs, rfl, rfl, h0, r0⟩ := trodAll_cons hA
  obtain ⟨v1, vs1, d1, ds1, p1, q1, rfl, rfl, rfl, h1, r1⟩ := trodAll_cons r0
  obtain ⟨rfl, rfl, rfl⟩ := trodAll_nil r1
  obtain rfl : args = #[v0, v1] := by cases args; simp_all
  obtain ⟨rfl, rfl⟩ := trodVars_none hV
  have hb := of_decide_eq_true hk
  simp only [List.append_nil, Rows.uptoBulkAll] at hb
  have k0 := h0
  have lt0 : ∀ x ∈ p0, x.block < W.heap.size := by obtain ⟨m, hm⟩ := k0; exact DataW.trod_lt m _ _ _ hm
  obtain ⟨a0, rfl, w0, e0⟩ := open_lea (hval 0 23 v0 rfl rfl) h0
  rw [e0] at hb
  have l0c := length_bs a0.c
  have l0n := length_bs a0.n
  obtain ⟨a1, rfl, rfl, rfl, w1⟩ := open_int Try.underlying3 (hval 1 3 v1 rfl rfl) h1
  simp only [Rows.uptoBulk, Rows.uptoBulkAll] at hb
  have s0 : a0.c.size ≤ 1048576 ∧ a0.n.size ≤ 1048576 := ⟨by omega, by omega⟩
  clear hA0 hval0 hb hk
  refine (walk a0 a1 W w0 s0 w1).mono fun e W' ⟨he, bel⟩ => ?_
  subst he
  exact ⟨_, rfl, _, _, _, [], _, [], hW', trodAll_mk1 (shut_bool Try.underlying4 _), (trodAll_cons_mk (Below.trod laidOut (by kernel_rfl) (of_decide_eq_true (by kernel_rfl)) k0 bel lt0) (trodAll_cons_mk (shut_int Try.underlying3 w1) trodAll_mk0)), rfl, bel.frame _, fun h => by cases h⟩

/-- The given statement. -/
theorem proved : Rows.LeasesUptoSaid :=
  OpenClaim.holds_of_cond 3 Try.f3 rfl rfl rfl rfl rfl rfl rfl ⟨rfl, rfl, rfl, rfl, rfl⟩ rfl rfl rfl rfl rfl (by kernel_rfl) Try.func3 (by kernel_rfl)
    (of_decide_eq_true (by kernel_rfl)) (by unfold Func.isWrapper; first | (rw [if_pos (by decide +kernel)]; kernel_rfl) | (rw [if_neg (by decide +kernel)]; exact ⟨rfl, rfl⟩))
    (fun os started H enc _ F => lifted os started H enc F)

end Go.Proofs.Ytlnkpgmflaekoaa.leases
namespace Go.Proofs.Ytlnkpgmflaekoaa
theorem leases_proved : Rows.LeasesUptoSaid := leases.proved
#print axioms leases_proved
end Go.Proofs.Ytlnkpgmflaekoaa
