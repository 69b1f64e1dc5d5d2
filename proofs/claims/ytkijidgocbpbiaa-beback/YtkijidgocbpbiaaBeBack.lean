/-
  Proved here: pinfoldlaw1.BeBack answers true for every x, y and all texts ahead and behind (P1.1, P1.2, T1: numbers come back, wherever they stand; lesser ones are lesser texts).
  Conditions: none but the row's own (each text takes at most 2^47 - 4096 bytes).
-/
import Derived.Test.YtkijidgocbpbiaaAwake1
import Derived.Test.YtkijidgocbpbiaaBeFacts
import Derived.OpenShut
import Derived.ShutString
import Derived.ChangeOld
import Derived.SizedLaws
namespace Go.Proofs.Ytkijidgocbpbiaa.beBack
open Go.ChangeShapes Go.WideShapes Go.ChangeAt Go.RowKit Go.Pin Go.PlainAid
open Go.ChangeMaps (open_string shut_string)

/-- int(uint32(uint64(x))). -/
theorem low32 (x : Int) : ∃ A : Int, 0 ≤ A ∧ A < 4294967296 ∧ IntKind.u64.wrap x % 4294967296 = A :=
  ⟨x % 4294967296, by omega, by omega, by rw [IntKind.wrap_u64]; omega⟩

set_option maxHeartbeats 1600000 in
theorem walk (a0 : Int) (a1 : Int) (a2 : ByteArray) (a3 : ByteArray) (w : World) (_w0 : (Lit.int .i64 a0).wf = true) (_w1 : (Lit.int .i64 a1).wf = true) (w2 : a2.size ≤ 140737488351232) (w3 : a3.size ≤ 140737488351232) :
    Calls Try.prog 4 #[.int .i64 a0, .int .i64 a1, .string a2, .string a3] w fun e w' => e = .returned (.bool true) ∧ Below w.heap.size w w' := by
  obtain ⟨A, A0, A1, hA⟩ := low32 a0
  obtain ⟨B, B0, B1, hB⟩ := low32 a1
  obtain ⟨C, C0, C1, hC⟩ : ∃ C : Int, 0 ≤ C ∧ C < 65536 ∧ bits .and .i64 A 65535 = C := ⟨A % 65536, by omega, by omega, i64_mask 16 A (by decide)⟩
  obtain ⟨D, D0, D1, hD⟩ : ∃ D : Int, 0 ≤ D ∧ D < 256 ∧ bits .and .i64 A 255 = D := ⟨A % 256, by omega, by omega, i64_mask 8 A (by decide)⟩
  have hs4 := size_be A 4
  have hs2 := size_be C 2
  have hs1 := size_be D 1
  have hl := less_be A B A0 A1 B0 B1
  go_enter Try.func4, Try.ntmps4
  go_wp2_with fail
  refine (awake_yes _).mono ?_; rintro e v1 ⟨rfl, hb1⟩
  go_wp2_with fail
  refine (put_4 A _ A0 A1).mono ?_; rintro e v2 ⟨rfl, hb2⟩
  go_wp2_with fail
  refine (put_4 B _ B0 B1).mono ?_; rintro e v3 ⟨rfl, hb3⟩
  go_wp2_with fail
  refine (put_2 C _ C0 C1).mono ?_; rintro e v4 ⟨rfl, hb4⟩
  go_wp2_with fail
  refine (put_1 D _ D0 D1).mono ?_; rintro e v5 ⟨rfl, hb5⟩
  go_wp2_with fail
  refine (get_mid a2 a3 A 4 _ (by unfold inB; omega) (by unfold maxLen; omega)).mono ?_; rintro e v6 ⟨rfl, rfl⟩
  go_wp2_with fail
  refine (get_mid a2 a3 C 2 _ (by unfold inB; omega) (by unfold maxLen; omega)).mono ?_; rintro e v6 ⟨rfl, rfl⟩
  go_wp2_with fail
  refine (get_mid a2 a3 D 1 _ (by unfold inB; omega) (by unfold maxLen; omega)).mono ?_; rintro e v6 ⟨rfl, rfl⟩
  go_wp2_with (go_at_call 12; refine (num_any _ _).mono ?_; rintro e v6 ⟨rfl, rfl⟩)
  go_ret
  exact ⟨rfl, bel_trans (bel_trans (bel_trans (bel_trans hb1 hb2) hb3) hb4) hb5⟩

theorem own : ownKnob Try.prog.godebug = none := by kernel_rfl
theorem laidOut : laidOutB Try.prog = true := by kernel_rfl

/-! ### The row's step -/
set_option maxRecDepth 100000 in
theorem lifted (os : Os) (started : os.Started) (H : Type) (enc : TypeId × Value → H) :
    ReturnsInHanded {} Try.checked os 4 .any (Rows.beBackSpec.pre6 enc Try.prog Try.f4 Rows.beBackRow.domain false) (Rows.beBackSpec.post enc Try.prog Try.f4 false true false false) := by
  refine returnsInHanded_of_change_sized (C := Try.checked) own started (by kernel_rfl) Try.func4
    (ChangeSpec.witness6 (enc := enc) (C := Try.checked) false ⟨#[], #[.int .i64 0, .int .i64 0, .string ByteArray.empty, .string ByteArray.empty], []⟩ 8 (by kernel_rfl) (by kernel_rfl) (by kernel_rfl) (by kernel_rfl)) ?_
  intro W base args ds gs before hval0 hW _ hsz0 _
  have hval : ∀ (j : Nat) t v, Try.f4.params[j]? = some t → args[j]? = some v → Value.okWide Try.prog W .any base t v := hval0
  have hsz : (DataW.weightsEach Try.prog (Try.f4.params.toList ++ Rows.beBackSpec.plain.varTypes Try.prog) (ds ++ gs)).all (· ≤ reachBytes) = true := hsz0
  have hW' := hW
  obtain ⟨p, q, hA0, hV, rfl, _, _⟩ := hW
  have hA : DataW.TrodAll enc Try.prog W 0 (fun _ => true) true Try.f4.params.toList args.toList ds p := hA0
  rw [Try.params4] at hA hval hsz
  obtain ⟨v0, vs0, d0, ds0, p0, q0, hargs, rfl, rfl, h0, r0⟩ := trodAll_cons hA
  obtain ⟨v1, vs1, d1, ds1, p1, q1, rfl, rfl, rfl, h1, r1⟩ := trodAll_cons r0
  obtain ⟨v2, vs2, d2, ds2, p2, q2, rfl, rfl, rfl, h2, r2⟩ := trodAll_cons r1
  obtain ⟨v3, vs3, d3, ds3, p3, q3, rfl, rfl, rfl, h3, r3⟩ := trodAll_cons r2
  obtain ⟨rfl, rfl, rfl⟩ := trodAll_nil r3
  obtain rfl : args = #[v0, v1, v2, v3] := by cases args; simp_all
  obtain ⟨rfl, rfl⟩ := trodVars_none hV
  obtain ⟨a0, rfl, rfl, rfl, w0⟩ := open_int Try.underlying3 (hval 0 3 v0 rfl rfl) h0
  obtain ⟨a1, rfl, rfl, rfl, w1⟩ := open_int Try.underlying3 (hval 1 3 v1 rfl rfl) h1
  obtain ⟨a2, rfl, rfl, rfl, w2⟩ := open_string Try.underlying9 (hval 2 9 v2 rfl rfl) h2
  have s2 : a2.size ≤ 140737488351232 := by have := sized_string hsz (j := 2) (t := 9) rfl rfl; simpa [reachBytes] using this
  obtain ⟨a3, rfl, rfl, rfl, w3⟩ := open_string Try.underlying9 (hval 3 9 v3 rfl rfl) h3
  have s3 : a3.size ≤ 140737488351232 := by have := sized_string hsz (j := 3) (t := 9) rfl rfl; simpa [reachBytes] using this
  clear hA0 hval0 hsz0
  refine (walk a0 a1 a2 a3 W w0 w1 s2 s3).mono fun e W' ⟨he, bel⟩ => ?_
  subst he
  exact ⟨_, rfl, _, _, _, [], [], [], hW', trodAll_mk1 (shut_bool Try.underlying4 _), (trodAll_cons_mk (shut_int Try.underlying3 w0) (trodAll_cons_mk (shut_int Try.underlying3 w1) (trodAll_cons_mk (shut_string Try.underlying9 w2) (trodAll_cons_mk (shut_string Try.underlying9 w3) trodAll_mk0)))), rfl, bel.frame _, fun h => by cases h⟩

theorem over : Rows.beBackRow.holds Try.pinned (OpenSpec.ofChange Rows.beBackSpec) :=
  OpenClaim.holds_of_wide 4 Try.f4 rfl rfl rfl rfl rfl rfl rfl ⟨rfl, rfl, rfl, rfl, rfl⟩ rfl rfl rfl rfl rfl (by kernel_rfl) Try.func4 (by kernel_rfl)
    (of_decide_eq_true (by kernel_rfl)) (by unfold Func.isWrapper; first | (rw [if_pos (by decide +kernel)]; kernel_rfl) | (rw [if_neg (by decide +kernel)]; exact ⟨rfl, rfl⟩))
    (fun os started H enc _ => lifted os started H enc)

/-- The given statement. -/
theorem proved : Rows.BeBackSaid := over

end Go.Proofs.Ytkijidgocbpbiaa.beBack
namespace Go.Proofs.Ytkijidgocbpbiaa
theorem beBack_proved : Rows.BeBackSaid := beBack.proved
#print axioms beBack_proved
end Go.Proofs.Ytkijidgocbpbiaa
