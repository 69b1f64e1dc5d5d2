/-
  Proved here: pinfoldlaw11.ConfHosts answers true for every two numbers (addresses of other nets are no hosts; hosts that are none have no address) (P11.2).
  Conditions: none but the row's own.
-/
import Derived.Test.YtedbihckdbpebaaAwake11
import Derived.OpenShut
import Derived.ShutString
import Derived.ChangeOld
import Derived.SizedLaws
namespace Go.Proofs.Ytedbihckdbpebaa.confHosts
open Go.ChangeShapes Go.WideShapes Go.ChangeAt Go.RowKit Go.Pin Go.PlainAid
open Go.ChangeMaps (open_string shut_string)

theorem addr_no {h : Int} (hh : h < 1 ∨ 254 < h) : addrA h = (0, 1100) := by
  have : betw 1 h 254 = false := by simp [betw]; omega
  simp [addrA, this]
theorem host_yes {a : Int} (h0 : 167772160 < a) (h1 : a < 167772415) : hostA a = a - 167772160 := by
  have : betw 167772161 a 167772414 = true := (betw_iff _ _ _).2 ⟨by omega, by omega⟩
  simp [hostA, this]
theorem host_no {a : Int} (h : ¬ (167772160 < a ∧ a < 167772415)) : hostA a = 0 := by
  have : betw 167772161 a 167772414 = false := by simp [betw]; omega
  simp [hostA, this]

set_option maxHeartbeats 400000 in
theorem walk (a0 a1 : Int) (w : World) (_w0 : (Lit.int .i64 a0).wf = true) (_w1 : (Lit.int .i64 a1).wf = true) :
    Calls Try.prog 6 #[.int .i64 a0, .int .i64 a1] w fun e w' => e = .returned (.bool true) ∧ Below w.heap.size w w' := by
  clear _w0 _w1
  obtain ⟨D, hD0, hD1, hm⟩ : ∃ D : Int, 0 ≤ D ∧ D < 1024 ∧ bits .and .i64 a1 1023 = D := ⟨a1 % 1024, by omega, by omega, i64_mask 10 a1 (by decide)⟩
  have N0 : Hid (∀ w, _) := fun w => host_is 167772160 0 w (by decide)
  have N1 : Hid (∀ w, _) := fun w => host_is 167772415 0 w (by decide)
  by_cases hin : 167772160 < a0 ∧ a0 < 167772415
  · obtain ⟨h0, h1⟩ := hin
    have HH : Hid (∀ w, _) := fun w => host_is a0 _ w (host_yes h0 h1)
    have d0 : decide (167772160 < a0) = true := by simpa using h0
    have d1 : decide (a0 < 167772415) = true := by simpa using h1
    have hne : (a0 - 167772160 != 0) = true := by simp; omega
    go_enter Try.func6, Try.ntmps6
    go_wp2_with fail
    refine (awake11_yes _).mono ?_; rintro e w1 ⟨rfl, hb⟩
    have B : Hid (Below w.heap.size w w1) := hb
    clear hb
    go_wp2_with fail
    refine (address_is _ _ _ _ (addr_no (.inl (by omega)))).mono ?_; rintro e w2 ⟨rfl, rfl⟩
    go_wp2_with fail
    refine (address_is _ _ _ _ (addr_no (.inr (by omega)))).mono ?_; rintro e w3 ⟨rfl, rfl⟩
    go_wp2_with fail
    refine (HH.out _).mono ?_; rintro e w4 ⟨rfl, rfl⟩
    go_wp2_with (first | (go_at_call 19; refine (num_any _ _).mono ?_; rintro e wz ⟨rfl, rfl⟩) | fail)
    refine (N0.out _).mono ?_; rintro e w5 ⟨rfl, rfl⟩
    go_wp2_with fail
    refine (N1.out _).mono ?_; rintro e w6 ⟨rfl, rfl⟩
    go_wp2
    go_ret
    exact ⟨rfl, B.out⟩
  · have HH : Hid (∀ w, _) := fun w => host_is a0 _ w (host_no hin)
    have hd : (decide (167772160 < a0) = true ∧ decide (a0 < 167772415) = false) ∨ decide (167772160 < a0) = false := by
      simp only [decide_eq_true_eq, decide_eq_false_iff_not]; omega
    clear hin
    rcases hd with ⟨d0, d1⟩ | d0
    all_goals
      go_enter Try.func6, Try.ntmps6
      go_wp2_with fail
      refine (awake11_yes _).mono ?_; rintro e w1 ⟨rfl, hb⟩
      have B : Hid (Below w.heap.size w w1) := hb
      clear hb
      go_wp2_with fail
      refine (address_is _ _ _ _ (addr_no (.inl (by omega)))).mono ?_; rintro e w2 ⟨rfl, rfl⟩
      go_wp2_with fail
      refine (address_is _ _ _ _ (addr_no (.inr (by omega)))).mono ?_; rintro e w3 ⟨rfl, rfl⟩
      go_wp2_with fail
      refine (HH.out _).mono ?_; rintro e w4 ⟨rfl, rfl⟩
      go_wp2_with (first | (go_at_call 19; refine (num_any _ _).mono ?_; rintro e wz ⟨rfl, rfl⟩) | fail)
      refine (N0.out _).mono ?_; rintro e w5 ⟨rfl, rfl⟩
      go_wp2_with fail
      refine (N1.out _).mono ?_; rintro e w6 ⟨rfl, rfl⟩
      go_wp2
      go_ret
      exact ⟨rfl, B.out⟩

theorem own : ownKnob Try.prog.godebug = none := by kernel_rfl
theorem laidOut : laidOutB Try.prog = true := by kernel_rfl

/-! ### The row's step -/
set_option maxRecDepth 100000 in
theorem lifted (os : Os) (started : os.Started) (H : Type) (enc : TypeId × Value → H) :
    ReturnsInHanded {} Try.checked os 6 .any (Rows.confHostsSpec.pre6 enc Try.prog Try.f6 Rows.confHostsRow.domain false) (Rows.confHostsSpec.post enc Try.prog Try.f6 false true false false) := by
  refine returnsInHanded_of_change_sized (C := Try.checked) own started (by kernel_rfl) Try.func6
    (ChangeSpec.witness6 (enc := enc) (C := Try.checked) false ⟨#[], #[.int .i64 0, .int .i64 0], []⟩ 8 (by kernel_rfl) (by kernel_rfl) (by kernel_rfl) (by kernel_rfl)) ?_
  intro W base args ds gs before hval0 hW _ hsz0 _
  have hval : ∀ (j : Nat) t v, Try.f6.params[j]? = some t → args[j]? = some v → Value.okWide Try.prog W .any base t v := hval0
  have hsz : (DataW.weightsEach Try.prog (Try.f6.params.toList ++ Rows.confHostsSpec.plain.varTypes Try.prog) (ds ++ gs)).all (· ≤ reachBytes) = true := hsz0
  have hW' := hW
  obtain ⟨p, q, hA0, hV, rfl, _, _⟩ := hW
  have hA : DataW.TrodAll enc Try.prog W 0 (fun _ => true) true Try.f6.params.toList args.toList ds p := hA0
  rw [Try.params6] at hA hval hsz
  obtain ⟨v0, vs0, d0, ds0, p0, q0, hargs, rfl, rfl, h0, r0⟩ := trodAll_cons hA
  obtain ⟨v1, vs1, d1, ds1, p1, q1, rfl, rfl, rfl, h1, r1⟩ := trodAll_cons r0
  obtain ⟨rfl, rfl, rfl⟩ := trodAll_nil r1
  obtain rfl : args = #[v0, v1] := by cases args; simp_all
  obtain ⟨rfl, rfl⟩ := trodVars_none hV
  obtain ⟨a0, rfl, rfl, rfl, w0⟩ := open_int Try.underlying3 (hval 0 3 v0 rfl rfl) h0
  obtain ⟨a1, rfl, rfl, rfl, w1⟩ := open_int Try.underlying3 (hval 1 3 v1 rfl rfl) h1
  clear hA0 hval0 hsz0
  refine (walk a0 a1 W w0 w1).mono fun e W' ⟨he, bel⟩ => ?_
  subst he
  exact ⟨_, rfl, _, _, _, [], [], [], hW', trodAll_mk1 (shut_bool Try.underlying4 _), (trodAll_cons_mk (shut_int Try.underlying3 w0) (trodAll_cons_mk (shut_int Try.underlying3 w1) trodAll_mk0)), rfl, bel.frame _, fun h => by cases h⟩

theorem over : Rows.confHostsRow.holds Try.pinned (OpenSpec.ofChange Rows.confHostsSpec) :=
  OpenClaim.holds_of_wide 6 Try.f6 rfl rfl rfl rfl rfl rfl rfl ⟨rfl, rfl, rfl, rfl, rfl⟩ rfl rfl rfl rfl rfl (by kernel_rfl) Try.func6 (by kernel_rfl)
    (of_decide_eq_true (by kernel_rfl)) (by unfold Func.isWrapper; first | (rw [if_pos (by decide +kernel)]; kernel_rfl) | (rw [if_neg (by decide +kernel)]; exact ⟨rfl, rfl⟩))
    (fun os started H enc _ => lifted os started H enc)

/-- The given statement. -/
theorem proved : Rows.ConfHostsSaid := over

end Go.Proofs.Ytedbihckdbpebaa.confHosts
namespace Go.Proofs.Ytedbihckdbpebaa
theorem confHosts_proved : Rows.ConfHostsSaid := confHosts.proved
#print axioms confHosts_proved
end Go.Proofs.Ytedbihckdbpebaa
