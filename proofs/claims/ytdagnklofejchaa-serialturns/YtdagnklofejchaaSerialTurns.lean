/-
  Proved here: pinfoldlaw10.SerialTurns answers true for every number and every way up to half (one way round is the other way round) (P10.1).
  Conditions: none but the row's own.
-/
import Derived.Test.YtdagnklofejchaaAwake10
import Derived.OpenShut
import Derived.ShutString
import Derived.ChangeOld
import Derived.SizedLaws
namespace Go.Proofs.Ytdagnklofejchaa.serialTurns
open Go.ChangeShapes Go.WideShapes Go.ChangeAt Go.RowKit Go.Pin Go.PlainAid
open Go.ChangeMaps (open_string shut_string)

theorem walk (a0 : Int) (a1 : Int) (w : World) (_w0 : (Lit.int .i64 a0).wf = true) (_w1 : (Lit.int .i64 a1).wf = true) :
    Calls Try.prog 4 #[.int .i64 a0, .int .i64 a1] w fun e w' => e = .returned (.bool true) ∧ Below w.heap.size w w' := by
  clear _w0 _w1
  obtain ⟨X, hX⟩ : ∃ X : Int, IntKind.u64.wrap a0 % 4294967296 = X := ⟨_, rfl⟩
  obtain ⟨D, hD⟩ : ∃ D : Int, wrap64 (1 + wrap64 ((IntKind.u64.wrap a1).tmod 2147483647)) = D := ⟨_, rfl⟩
  have hX0 : 0 ≤ X := by omega
  have hX1 : X < 4294967296 := by omega
  have hD0 : 1 ≤ D ∧ D ≤ 2147483647 := by
    rw [← hD, IntKind.wrap_u64, tmod_of_emod]
    unfold wrap64
    omega
  obtain ⟨hD0, hD1⟩ := hD0
  obtain ⟨Y, hY⟩ : ∃ Y : Int, (X + D) % 4294967296 = Y := ⟨_, rfl⟩
  have hYt : (wrap64 (X + D)).tmod 4294967296 = Y := by
    rw [← hY, show wrap64 (X + D) = X + D by unfold wrap64; omega, Int.tmod_eq_emod_of_nonneg (by omega)]
  have hS : isS X := ⟨hX0, hX1⟩
  have hT : isS Y := ⟨by omega, by omega⟩
  obtain ⟨Z, hZ⟩ : ∃ Z : Int, (X + 1) % 4294967296 = Z := ⟨_, rfl⟩
  have hU : isS Z := ⟨by omega, by omega⟩
  have H1 : Hid (orderA X Y = (1, 0)) := order_before hS hT (by omega) (by omega)
  have H2 : Hid (orderA Y X = (2, 0)) := order_after hT hS (by omega)
  have H3 : Hid (nextA X = (Z, 0)) := by
    show nextA X = (Z, 0)
    rw [nextA_yes hS, nextS, hZ]
  have H4 : Hid (orderA X Z = (1, 0)) := order_before hS hU (by omega) (by omega)
  have H5 : Hid (orderA X X = (0, 0)) := order_same hS
  clear hS hT hU hY hZ hD0 hD1 hX0 hX1
  go_enter Try.func4, Try.ntmps4
  go_wp2_with fail
  refine (awake10_yes _).mono ?_; rintro e w1 ⟨rfl, rfl⟩
  go_wp2_with fail
  refine (order_is _ _ _ _ _ H1.out).mono ?_; rintro e w1 ⟨rfl, rfl⟩
  go_wp2_with fail
  refine (order_is _ _ _ _ _ H2.out).mono ?_; rintro e w1 ⟨rfl, rfl⟩
  go_wp2_with fail
  refine (next_is _ _ _ _ H3.out).mono ?_; rintro e w1 ⟨rfl, rfl⟩
  go_wp2_with fail
  refine (order_is _ _ _ _ _ H4.out).mono ?_; rintro e w1 ⟨rfl, rfl⟩
  go_wp2_with fail
  refine (order_is _ _ _ _ _ H5.out).mono ?_; rintro e w1 ⟨rfl, rfl⟩
  go_wp2_with (go_at_call 12; refine (num_any _ _).mono ?_; rintro e w2 ⟨rfl, rfl⟩)
  go_ret
  exact ⟨rfl, Below.refl _ _⟩

theorem own : ownKnob Try.prog.godebug = none := by kernel_rfl
theorem laidOut : laidOutB Try.prog = true := by kernel_rfl

/-! ### The row's step -/
set_option maxRecDepth 100000 in
theorem lifted (os : Os) (started : os.Started) (H : Type) (enc : TypeId × Value → H) :
    ReturnsInHanded {} Try.checked os 4 .any (Rows.serialTurnsSpec.pre6 enc Try.prog Try.f4 Rows.serialTurnsRow.domain false) (Rows.serialTurnsSpec.post enc Try.prog Try.f4 false true false false) := by
  refine returnsInHanded_of_change_sized (C := Try.checked) own started (by kernel_rfl) Try.func4
    (ChangeSpec.witness6 (enc := enc) (C := Try.checked) false ⟨#[], #[.int .i64 0, .int .i64 0], []⟩ 8 (by kernel_rfl) (by kernel_rfl) (by kernel_rfl) (by kernel_rfl)) ?_
  intro W base args ds gs before hval0 hW _ hsz0 _
  have hval : ∀ (j : Nat) t v, Try.f4.params[j]? = some t → args[j]? = some v → Value.okWide Try.prog W .any base t v := hval0
  have hsz : (DataW.weightsEach Try.prog (Try.f4.params.toList ++ Rows.serialTurnsSpec.plain.varTypes Try.prog) (ds ++ gs)).all (· ≤ reachBytes) = true := hsz0
  have hW' := hW
  obtain ⟨p, q, hA0, hV, rfl, _, _⟩ := hW
  have hA : DataW.TrodAll enc Try.prog W 0 (fun _ => true) true Try.f4.params.toList args.toList ds p := hA0
  rw [Try.params4] at hA hval hsz
  obtain ⟨v0, vs0, d0, ds0, p0, q0, hargs, rfl, rfl, h0, r0⟩ := trodAll_cons hA
  obtain ⟨v1, vs1, d1, ds1, p1, q1, rfl, rfl, rfl, h1, r1⟩ := trodAll_cons r0
  obtain ⟨rfl, rfl, rfl⟩ := trodAll_nil r1
  obtain rfl : args = #[v0, v1] := by cases args; simp_all
  obtain ⟨rfl, rfl⟩ := trodVars_none hV
  obtain ⟨a0, rfl, rfl, rfl, w0⟩ := open_int Try.underlying3 (hval 0 3 v0 rfl rfl) h0
  obtain ⟨a1, rfl, rfl, rfl, w1⟩ := open_int Try.underlying3 (hval 1 3 v1 rfl rfl) h1
  clear hA0 hval0 hsz0
  refine (walk a0 a1 W w0 w1).mono fun e W' ⟨he, bel⟩ => ?_
  subst he
  exact ⟨_, rfl, _, _, _, [], [], [], hW', trodAll_mk1 (shut_bool Try.underlying4 _), (trodAll_cons_mk (shut_int Try.underlying3 w0) (trodAll_cons_mk (shut_int Try.underlying3 w1) trodAll_mk0)), rfl, bel.frame _, fun h => by cases h⟩

theorem over : Rows.serialTurnsRow.holds Try.pinned (OpenSpec.ofChange Rows.serialTurnsSpec) :=
  OpenClaim.holds_of_wide 4 Try.f4 rfl rfl rfl rfl rfl rfl rfl ⟨rfl, rfl, rfl, rfl, rfl⟩ rfl rfl rfl rfl rfl (by kernel_rfl) Try.func4 (by kernel_rfl)
    (of_decide_eq_true (by kernel_rfl)) (by unfold Func.isWrapper; first | (rw [if_pos (by decide +kernel)]; kernel_rfl) | (rw [if_neg (by decide +kernel)]; exact ⟨rfl, rfl⟩))
    (fun os started H enc _ => lifted os started H enc)

/-- The given statement. -/
theorem proved : Rows.SerialTurnsSaid := over

end Go.Proofs.Ytdagnklofejchaa.serialTurns
namespace Go.Proofs.Ytdagnklofejchaa
theorem serialTurns_proved : Rows.SerialTurnsSaid := serialTurns.proved
#print axioms serialTurns_proved
end Go.Proofs.Ytdagnklofejchaa
