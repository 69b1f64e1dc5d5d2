/-
  Proved here: pinfoldlaw10.SerialMoves answers true for every three numbers (moving both on by as much turns nothing) (P10.1).
  Conditions: none but the row's own.
-/
import Derived.Test.YtdagnklofejchaaAwake10
import Derived.OpenShut
import Derived.ShutString
import Derived.ChangeOld
import Derived.SizedLaws
namespace Go.Proofs.Ytdagnklofejchaa.serialMoves
open Go.ChangeShapes Go.WideShapes Go.ChangeAt Go.RowKit Go.Pin Go.PlainAid
open Go.ChangeMaps (open_string shut_string)


theorem walk (a0 : Int) (a1 : Int) (a2 : Int) (w : World) (_w0 : (Lit.int .i64 a0).wf = true) (_w1 : (Lit.int .i64 a1).wf = true) (_w2 : (Lit.int .i64 a2).wf = true) :
    Calls Try.prog 7 #[.int .i64 a0, .int .i64 a1, .int .i64 a2] w fun e w' => e = .returned (.bool true) ∧ Below w.heap.size w w' := by
  clear _w0 _w1 _w2
  obtain ⟨X, hX⟩ : ∃ X : Int, IntKind.u64.wrap a0 % 4294967296 = X := ⟨_, rfl⟩
  obtain ⟨Y, hY⟩ : ∃ X : Int, IntKind.u64.wrap a1 % 4294967296 = X := ⟨_, rfl⟩
  obtain ⟨D, hD⟩ : ∃ X : Int, IntKind.u64.wrap a2 % 4294967296 = X := ⟨_, rfl⟩
  have hX0 : 0 ≤ X := by omega
  have hX1 : X < 4294967296 := by omega
  have hY0 : 0 ≤ Y := by omega
  have hY1 : Y < 4294967296 := by omega
  have hD0 : 0 ≤ D := by omega
  have hD1 : D < 4294967296 := by omega
  obtain ⟨P, hP⟩ : ∃ P : Int, (X + D) % 4294967296 = P := ⟨_, rfl⟩
  obtain ⟨Q, hQ⟩ : ∃ Q : Int, (Y + D) % 4294967296 = Q := ⟨_, rfl⟩
  have hPt : (wrap64 (X + D)).tmod 4294967296 = P := by
    rw [← hP, show wrap64 (X + D) = X + D by unfold wrap64; omega, Int.tmod_eq_emod_of_nonneg (by omega)]
  have hQt : (wrap64 (Y + D)).tmod 4294967296 = Q := by
    rw [← hQ, show wrap64 (Y + D) = Y + D by unfold wrap64; omega, Int.tmod_eq_emod_of_nonneg (by omega)]
  obtain ⟨O, hO⟩ : ∃ O : Int, ordS (aheadS X Y) = O := ⟨_, rfl⟩
  have H1 : Hid (orderA X Y = (O, 0)) := by
    show orderA X Y = (O, 0)
    rw [orderA_yes ⟨hX0, hX1⟩ ⟨hY0, hY1⟩, hO]
  have H2 : Hid (orderA P Q = (O, 0)) := by
    show orderA P Q = (O, 0)
    rw [orderA_yes ⟨by omega, by omega⟩ ⟨by omega, by omega⟩, ← hO, show aheadS P Q = aheadS X Y by unfold aheadS; omega]
  clear hO
  go_enter Try.func7, Try.ntmps7
  go_wp2_with fail
  refine (awake10_yes _).mono ?_; rintro e w1 ⟨rfl, rfl⟩
  go_wp2_with fail
  refine (order_is _ _ _ _ _ H1.out).mono ?_; rintro e w1 ⟨rfl, rfl⟩
  clear hX hY hD
  go_wp2_with fail
  refine (order_is _ _ _ _ _ H2.out).mono ?_; rintro e w1 ⟨rfl, rfl⟩
  go_wp2_with (go_at_call 12; refine (num_any _ _).mono ?_; rintro e w2 ⟨rfl, rfl⟩)
  go_ret
  exact ⟨rfl, Below.refl _ _⟩

theorem own : ownKnob Try.prog.godebug = none := by kernel_rfl
theorem laidOut : laidOutB Try.prog = true := by kernel_rfl

/-! ### The row's step -/
set_option maxRecDepth 100000 in
theorem lifted (os : Os) (started : os.Started) (H : Type) (enc : TypeId × Value → H) :
    ReturnsInHanded {} Try.checked os 7 .any (Rows.serialMovesSpec.pre6 enc Try.prog Try.f7 Rows.serialMovesRow.domain false) (Rows.serialMovesSpec.post enc Try.prog Try.f7 false true false false) := by
  refine returnsInHanded_of_change_sized (C := Try.checked) own started (by kernel_rfl) Try.func7
    (ChangeSpec.witness6 (enc := enc) (C := Try.checked) false ⟨#[], #[.int .i64 0, .int .i64 0, .int .i64 0], []⟩ 8 (by kernel_rfl) (by kernel_rfl) (by kernel_rfl) (by kernel_rfl)) ?_
  intro W base args ds gs before hval0 hW _ hsz0 _
  have hval : ∀ (j : Nat) t v, Try.f7.params[j]? = some t → args[j]? = some v → Value.okWide Try.prog W .any base t v := hval0
  have hsz : (DataW.weightsEach Try.prog (Try.f7.params.toList ++ Rows.serialMovesSpec.plain.varTypes Try.prog) (ds ++ gs)).all (· ≤ reachBytes) = true := hsz0
  have hW' := hW
  obtain ⟨p, q, hA0, hV, rfl, _, _⟩ := hW
  have hA : DataW.TrodAll enc Try.prog W 0 (fun _ => true) true Try.f7.params.toList args.toList ds p := hA0
  rw [Try.params7] at hA hval hsz
  obtain ⟨v0, vs0, d0, ds0, p0, q0, hargs, rfl, rfl, h0, r0⟩ := trodAll_cons hA
  obtain ⟨v1, vs1, d1, ds1, p1, q1, rfl, rfl, rfl, h1, r1⟩ := trodAll_cons r0
  obtain ⟨v2, vs2, d2, ds2, p2, q2, rfl, rfl, rfl, h2, r2⟩ := trodAll_cons r1
  obtain ⟨rfl, rfl, rfl⟩ := trodAll_nil r2
  obtain rfl : args = #[v0, v1, v2] := by cases args; simp_all
  obtain ⟨rfl, rfl⟩ := trodVars_none hV
  obtain ⟨a0, rfl, rfl, rfl, w0⟩ := open_int Try.underlying3 (hval 0 3 v0 rfl rfl) h0
  obtain ⟨a1, rfl, rfl, rfl, w1⟩ := open_int Try.underlying3 (hval 1 3 v1 rfl rfl) h1
  obtain ⟨a2, rfl, rfl, rfl, w2⟩ := open_int Try.underlying3 (hval 2 3 v2 rfl rfl) h2
  clear hA0 hval0 hsz0
  refine (walk a0 a1 a2 W w0 w1 w2).mono fun e W' ⟨he, bel⟩ => ?_
  subst he
  exact ⟨_, rfl, _, _, _, [], [], [], hW', trodAll_mk1 (shut_bool Try.underlying4 _), (trodAll_cons_mk (shut_int Try.underlying3 w0) (trodAll_cons_mk (shut_int Try.underlying3 w1) (trodAll_cons_mk (shut_int Try.underlying3 w2) trodAll_mk0))), rfl, bel.frame _, fun h => by cases h⟩

theorem over : Rows.serialMovesRow.holds Try.pinned (OpenSpec.ofChange Rows.serialMovesSpec) :=
  OpenClaim.holds_of_wide 7 Try.f7 rfl rfl rfl rfl rfl rfl rfl ⟨rfl, rfl, rfl, rfl, rfl⟩ rfl rfl rfl rfl rfl (by kernel_rfl) Try.func7 (by kernel_rfl)
    (of_decide_eq_true (by kernel_rfl)) (by unfold Func.isWrapper; first | (rw [if_pos (by decide +kernel)]; kernel_rfl) | (rw [if_neg (by decide +kernel)]; exact ⟨rfl, rfl⟩))
    (fun os started H enc _ => lifted os started H enc)

/-- The given statement. -/
theorem proved : Rows.SerialMovesSaid := over

end Go.Proofs.Ytdagnklofejchaa.serialMoves
namespace Go.Proofs.Ytdagnklofejchaa
theorem serialMoves_proved : Rows.SerialMovesSaid := serialMoves.proved
#print axioms serialMoves_proved
end Go.Proofs.Ytdagnklofejchaa
