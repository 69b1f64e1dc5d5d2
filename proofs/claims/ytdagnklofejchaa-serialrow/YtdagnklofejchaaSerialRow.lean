/-
  Proved here: pinfoldlaw10.SerialRow answers true for every number and every length of row (each of a row of next ones is behind all that came ahead) (P10.1).
  Conditions: none but the row's own.
-/
import Derived.Test.YtdagnklofejchaaAwake10
import Derived.OpenShut
import Derived.ShutString
import Derived.ChangeOld
import Derived.SizedLaws
namespace Go.Proofs.Ytdagnklofejchaa.serialRow
open Go.ChangeShapes Go.WideShapes Go.ChangeAt Go.RowKit Go.Pin Go.PlainAid
open Go.ChangeMaps (open_string shut_string)

theorem walk (a0 : Int) (a1 : Int) (w : World) (_w0 : (Lit.int .i64 a0).wf = true) (_w1 : (Lit.int .i64 a1).wf = true) :
    Calls Try.prog 6 #[.int .i64 a0, .int .i64 a1] w fun e w' => e = .returned (.bool true) ∧ Below w.heap.size w w' := by
  clear _w0 _w1
  obtain ⟨X, hX⟩ : ∃ X : Int, IntKind.u64.wrap a0 % 4294967296 = X := ⟨_, rfl⟩
  have hX0 : 0 ≤ X := by omega
  have hX1 : X < 4294967296 := by omega
  obtain ⟨M, hM1, hm⟩ : ∃ M : Nat, M < 64 ∧ bits .and .i64 a1 63 = M := ⟨(a1 % 64).toNat, by omega, by rw [Int.toNat_of_nonneg (by omega)]; exact i64_mask 6 a1 (by decide)⟩
  go_enter Try.func6, Try.ntmps6
  go_wp2_with fail
  refine (awake10_yes _).mono ?_; rintro e w1 ⟨rfl, rfl⟩
  go_wp2_with fail
  clear hX
  go_loopw [6, 7] (fun t i wr => ∃ j : Nat, j ≤ M ∧ i = .int .i64 j ∧ t = .int .i64 ((X + j) % 4294967296) ∧ Below w1.heap.size w1 wr) (fun _ i _ => M - (intOf i).toNat)
  case atStart => exact ⟨0, Nat.zero_le _, rfl, by congr 1; omega, Below.refl _ _⟩
  case round =>
    obtain ⟨j, hj, rfl, rfl, hnx⟩ := hrel
    obtain ⟨A, hA⟩ : ∃ A : Int, (X + j) % 4294967296 = A := ⟨_, rfl⟩
    rw [hA]
    by_cases hlt : j < M
    · obtain ⟨B, hB⟩ : ∃ B : Int, (A + 1) % 4294967296 = B := ⟨_, rfl⟩
      have hS : isS A := ⟨by omega, by omega⟩
      have hT : isS B := ⟨by omega, by omega⟩
      have hA1 : A < 4294967296 := by omega
      have hA0 : 0 ≤ A := by omega
      have hw1 : wrap64 (A + 1) = A + 1 := by unfold wrap64; omega
      have hBt : (A + 1).tmod 4294967296 = B := by
        rw [← hB, Int.tmod_eq_emod_of_nonneg (by omega)]
      have H1 : Hid (nextA A = (B, 0)) := by
        show nextA A = (B, 0)
        rw [nextA_yes hS, nextS, hB]
      have H2 : Hid (orderA X B = (1, 0)) := order_before ⟨hX0, hX1⟩ hT (by omega) (by omega)
      have H3 : Hid (orderA A B = (1, 0)) := order_before hS hT (by omega) (by omega)
      have hN : Hid ((X + ((j + 1 : Nat) : Int)) % 4294967296 = B) := by
        show (X + ((j + 1 : Nat) : Int)) % 4294967296 = B
        omega
      clear hS hT hA hX0 hX1
      go_wp2_with fail
      refine (next_is _ _ _ _ H1.out).mono ?_; rintro e w2 ⟨rfl, rfl⟩
      go_wp2_with fail
      refine (order_is _ _ _ _ _ H2.out).mono ?_; rintro e w2 ⟨rfl, rfl⟩
      go_wp2_with fail
      refine (order_is _ _ _ _ _ H3.out).mono ?_; rintro e w2 ⟨rfl, rfl⟩
      go_wp2_with (go_at_call 12; refine (num_any _ _).mono ?_; rintro e w2 ⟨rfl, rfl⟩)
      go_roundw
      case rel => exact ⟨j + 1, by omega, by go_num, by rw [hN.out], hnx⟩
      case measure => simp [intOf]; omega
    · go_wp2
      go_ret
      exact ⟨rfl, hnx⟩

theorem own : ownKnob Try.prog.godebug = none := by kernel_rfl
theorem laidOut : laidOutB Try.prog = true := by kernel_rfl

/-! ### The row's step -/
set_option maxRecDepth 100000 in
theorem lifted (os : Os) (started : os.Started) (H : Type) (enc : TypeId × Value → H) :
    ReturnsInHanded {} Try.checked os 6 .any (Rows.serialRowSpec.pre6 enc Try.prog Try.f6 Rows.serialRowRow.domain false) (Rows.serialRowSpec.post enc Try.prog Try.f6 false true false false) := by
  refine returnsInHanded_of_change_sized (C := Try.checked) own started (by kernel_rfl) Try.func6
    (ChangeSpec.witness6 (enc := enc) (C := Try.checked) false ⟨#[], #[.int .i64 0, .int .i64 0], []⟩ 8 (by kernel_rfl) (by kernel_rfl) (by kernel_rfl) (by kernel_rfl)) ?_
  intro W base args ds gs before hval0 hW _ hsz0 _
  have hval : ∀ (j : Nat) t v, Try.f6.params[j]? = some t → args[j]? = some v → Value.okWide Try.prog W .any base t v := hval0
  have hsz : (DataW.weightsEach Try.prog (Try.f6.params.toList ++ Rows.serialRowSpec.plain.varTypes Try.prog) (ds ++ gs)).all (· ≤ reachBytes) = true := hsz0
  have hW' := hW
  obtain ⟨p, q, hA0, hV, rfl, _, _⟩ := hW
  have hA : DataW.TrodAll enc Try.prog W 0 (fun _ => true) true Try.f6.params.toList args.toList ds p := hA0
  rw [Try.params6] at hA hval hsz
  obtain ⟨v0, vs0, d0, ds0, p0, q0, hargs, rfl, rfl, h0, r0⟩ := trodAll_cons hA
  obtain ⟨v1, vs1, d1, ds1, p1, q1, rfl, rfl, rfl, h1, r1⟩ := trodAll_cons r0
  obtain ⟨rfl, rfl, rfl⟩ := trodAll_nil r1
  obtain rfl : args = #[v0, v1] := by cases args; simp_all
  obtain ⟨rfl, rfl⟩ := trodVars_none hV
  obtain ⟨a0, rfl, rfl, rfl, w0⟩ := open_int Try.underlying3 (hval 0 3 v0 rfl rfl) h0
  obtain ⟨a1, rfl, rfl, rfl, w1⟩ := open_int Try.underlying3 (hval 1 3 v1 rfl rfl) h1
  clear hA0 hval0 hsz0
  refine (walk a0 a1 W w0 w1).mono fun e W' ⟨he, bel⟩ => ?_
  subst he
  exact ⟨_, rfl, _, _, _, [], [], [], hW', trodAll_mk1 (shut_bool Try.underlying4 _), (trodAll_cons_mk (shut_int Try.underlying3 w0) (trodAll_cons_mk (shut_int Try.underlying3 w1) trodAll_mk0)), rfl, bel.frame _, fun h => by cases h⟩

theorem over : Rows.serialRowRow.holds Try.pinned (OpenSpec.ofChange Rows.serialRowSpec) :=
  OpenClaim.holds_of_wide 6 Try.f6 rfl rfl rfl rfl rfl rfl rfl ⟨rfl, rfl, rfl, rfl, rfl⟩ rfl rfl rfl rfl rfl (by kernel_rfl) Try.func6 (by kernel_rfl)
    (of_decide_eq_true (by kernel_rfl)) (by unfold Func.isWrapper; first | (rw [if_pos (by decide +kernel)]; kernel_rfl) | (rw [if_neg (by decide +kernel)]; exact ⟨rfl, rfl⟩))
    (fun os started H enc _ => lifted os started H enc)

/-- The given statement. -/
theorem proved : Rows.SerialRowSaid := over

end Go.Proofs.Ytdagnklofejchaa.serialRow
namespace Go.Proofs.Ytdagnklofejchaa
theorem serialRow_proved : Rows.SerialRowSaid := serialRow.proved
#print axioms serialRow_proved
end Go.Proofs.Ytdagnklofejchaa
