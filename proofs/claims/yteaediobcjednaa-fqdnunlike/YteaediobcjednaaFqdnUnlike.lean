/-
  Proved here: pinfoldlaw8.FqdnUnlike answers true for every two numbers and texts (P8.1, T1: unlike flags or names have unlike bytes).
  Conditions: none but the row's own.
-/
import Derived.Test.YteaediobcjednaaAwake8
import Derived.OpenShut
import Derived.ShutString
import Derived.ChangeOld
import Derived.SizedLaws
namespace Go.Proofs.Yteaediobcjednaa.fqdnUnlike
open Go.ChangeShapes Go.WideShapes Go.ChangeAt Go.RowKit Go.Pin Go.PlainAid
open Go.ChangeMaps (open_string shut_string)

set_option maxHeartbeats 1000000 in
theorem walk (x : Int) (a : ByteArray) (y : Int) (b : ByteArray) (w : World) (_w0 : (Lit.int .i64 x).wf = true) (ha0 : a.size ≤ 140737488351232) (_w2 : (Lit.int .i64 y).wf = true) (hb0 : b.size ≤ 140737488351232) :
    Calls Try.prog 6 #[.int .i64 x, .string a, .int .i64 y, .string b] w fun e w' => e = .returned (.bool true) ∧ Below w.heap.size w w' := by
  have ha : a.size ≤ maxLen := by unfold maxLen; omega
  have hb : b.size ≤ maxLen := by unfold maxLen; omega
  obtain ⟨m1, K, hm1, hK, mK⟩ := flag_any x
  obtain ⟨m2, J, hm2, hJ, mJ⟩ := flag_any y
  have HA : Hid (∀ w, _) := fun w => fPut_c K a w ha
  have HB : Hid (∀ w, _) := fun w => fPut_c J b w hb
  have HW : Hid (∀ w, _) := fun w => awake8_yes w
  cases hp : putF K (bs a) with
  | none =>
    rw [hp] at HA
    simp only [fqA] at HA
    cases hq : putF J (bs b) with
    | none =>
      rw [hq] at HB
      simp only [fqA] at HB
      clear hp hq mK mJ ha hb
      go_enter Try.func6, Try.ntmps6
      go_wp2_with fail
      refine (HW.out _).mono ?_; rintro e w1 ⟨rfl, B⟩
      go_wp2_with fail
      refine (HA.out _).mono ?_; rintro e w2 ⟨rfl, hb⟩
      replace B := bel_trans B hb
      clear hb
      go_wp2_with fail
      refine (HB.out _).mono ?_; rintro e w3 ⟨rfl, hb⟩
      replace B := bel_trans B hb
      clear hb
      go_wp2_with (go_at_call 11; refine (num_any _ _).mono ?_; rintro e w6 ⟨rfl, rfl⟩)
      go_ret
      exact ⟨rfl, B⟩
    | some Q =>
      rw [hq] at HB
      simp only [fqA] at HB
      clear hp hq mK mJ ha hb
      go_enter Try.func6, Try.ntmps6
      go_wp2_with fail
      refine (HW.out _).mono ?_; rintro e w1 ⟨rfl, B⟩
      go_wp2_with fail
      refine (HA.out _).mono ?_; rintro e w2 ⟨rfl, hb⟩
      replace B := bel_trans B hb
      clear hb
      go_wp2_with fail
      refine (HB.out _).mono ?_; rintro e w3 ⟨rfl, hb⟩
      replace B := bel_trans B hb
      clear hb
      go_wp2_with (go_at_call 11; refine (num_any _ _).mono ?_; rintro e w6 ⟨rfl, rfl⟩)
      go_ret
      exact ⟨rfl, B⟩
  | some P =>
    rw [hp] at HA
    simp only [fqA] at HA
    cases hq : putF J (bs b) with
    | none =>
      rw [hq] at HB
      simp only [fqA] at HB
      clear hp hq mK mJ ha hb
      go_enter Try.func6, Try.ntmps6
      go_wp2_with fail
      refine (HW.out _).mono ?_; rintro e w1 ⟨rfl, B⟩
      go_wp2_with fail
      refine (HA.out _).mono ?_; rintro e w2 ⟨rfl, hb⟩
      replace B := bel_trans B hb
      clear hb
      go_wp2_with fail
      refine (HB.out _).mono ?_; rintro e w3 ⟨rfl, hb⟩
      replace B := bel_trans B hb
      clear hb
      go_wp2_with (go_at_call 11; refine (num_any _ _).mono ?_; rintro e w6 ⟨rfl, rfl⟩)
      go_ret
      exact ⟨rfl, B⟩
    | some Q =>
      rw [hq] at HB
      simp only [fqA] at HB
      have b1 := (put_back hp).2.2.2.1
      have b2 := (put_back hq).2.2.2.1
      have hsame : ((mk P).toList == (mk Q).toList) = (K == J && (a.toList == b.toList)) := by
        by_cases hKJ : K = J
        · by_cases hab : a = b
          · subst hKJ; subst hab
            rw [hp] at hq
            simp only [Option.some.injEq] at hq
            subst hq
            simp
          · have : mk P ≠ mk Q := by
              intro e
              have := mk_inj e
              subst this
              rw [b1] at b2
              simp only [Option.some.injEq, Prod.mk.injEq] at b2
              exact hab (bs_inj b2.2)
            rw [eq_no this, eq_no hab, Bool.and_false]
        · have : mk P ≠ mk Q := by
            intro e
            have := mk_inj e
            subst this
            rw [b1] at b2
            simp only [Option.some.injEq, Prod.mk.injEq] at b2
            exact hKJ b2.1
          rw [eq_no this, beq_eq_false_iff_ne.2 hKJ, Bool.false_and]
      generalize mk P = S at *
      generalize mk Q = T at *
      clear hp hq mK mJ ha hb b1 b2
      have hsame' : Hid (_) := hsame
      clear hsame
      cases hkj : K == J
      all_goals
        rw [hkj] at hsame'
        go_enter Try.func6, Try.ntmps6
        go_wp2_with fail
        refine (HW.out _).mono ?_; rintro e w1 ⟨rfl, B⟩
        go_wp2_with fail
        refine (HA.out _).mono ?_; rintro e w2 ⟨rfl, hb⟩
        replace B := bel_trans B hb
        clear hb
        go_wp2_with fail
        refine (HB.out _).mono ?_; rintro e w3 ⟨rfl, hb⟩
        replace B := bel_trans B hb
        clear hb
        go_wp2_with (go_at_call 11; refine (num_any _ _).mono ?_; rintro e w6 ⟨rfl, rfl⟩)
        go_ret
        have h1 := hsame'.out
        exact ⟨ret_bool (by rw [h1]; simp), B⟩

theorem own : ownKnob Try.prog.godebug = none := by kernel_rfl
theorem laidOut : laidOutB Try.prog = true := by kernel_rfl

/-! ### The row's step -/
set_option maxRecDepth 100000 in
theorem lifted (os : Os) (started : os.Started) (H : Type) (enc : TypeId × Value → H) :
    ReturnsInHanded {} Try.checked os 6 .any (Rows.fqdnUnlikeSpec.pre6 enc Try.prog Try.f6 Rows.fqdnUnlikeRow.domain false) (Rows.fqdnUnlikeSpec.post enc Try.prog Try.f6 false true false false) := by
  refine returnsInHanded_of_change_sized (C := Try.checked) own started (by kernel_rfl) Try.func6
    (ChangeSpec.witness6 (enc := enc) (C := Try.checked) false ⟨#[], #[.int .i64 0, .string ByteArray.empty, .int .i64 0, .string ByteArray.empty], []⟩ 8 (by kernel_rfl) (by kernel_rfl) (by kernel_rfl) (by kernel_rfl)) ?_
  intro W base args ds gs before hval0 hW _ hsz0 _
  have hval : ∀ (j : Nat) t v, Try.f6.params[j]? = some t → args[j]? = some v → Value.okWide Try.prog W .any base t v := hval0
  have hsz : (DataW.weightsEach Try.prog (Try.f6.params.toList ++ Rows.fqdnUnlikeSpec.plain.varTypes Try.prog) (ds ++ gs)).all (· ≤ reachBytes) = true := hsz0
  have hW' := hW
  obtain ⟨p, q, hA0, hV, rfl, _, _⟩ := hW
  have hA : DataW.TrodAll enc Try.prog W 0 (fun _ => true) true Try.f6.params.toList args.toList ds p := hA0
  rw [Try.params6] at hA hval hsz
  obtain ⟨v0, vs0, d0, ds0, p0, q0, hargs, rfl, rfl, h0, r0⟩ := trodAll_cons hA
  obtain ⟨v1, vs1, d1, ds1, p1, q1, rfl, rfl, rfl, h1, r1⟩ := trodAll_cons r0
  obtain ⟨v2, vs2, d2, ds2, p2, q2, rfl, rfl, rfl, h2, r2⟩ := trodAll_cons r1
  obtain ⟨v3, vs3, d3, ds3, p3, q3, rfl, rfl, rfl, h3, r3⟩ := trodAll_cons r2
  obtain ⟨rfl, rfl, rfl⟩ := trodAll_nil r3
  obtain rfl : args = #[v0, v1, v2, v3] := by cases args; simp_all
  obtain ⟨rfl, rfl⟩ := trodVars_none hV
  obtain ⟨a0, rfl, rfl, rfl, w0⟩ := open_int Try.underlying3 (hval 0 3 v0 rfl rfl) h0
  obtain ⟨a1, rfl, rfl, rfl, w1⟩ := open_string Try.underlying9 (hval 1 9 v1 rfl rfl) h1
  have s1 : a1.size ≤ 140737488351232 := by have := sized_string hsz (j := 1) (t := 9) rfl rfl; simpa [reachBytes] using this
  obtain ⟨a2, rfl, rfl, rfl, w2⟩ := open_int Try.underlying3 (hval 2 3 v2 rfl rfl) h2
  obtain ⟨a3, rfl, rfl, rfl, w3⟩ := open_string Try.underlying9 (hval 3 9 v3 rfl rfl) h3
  have s3 : a3.size ≤ 140737488351232 := by have := sized_string hsz (j := 3) (t := 9) rfl rfl; simpa [reachBytes] using this
  clear hA0 hval0 hsz0
  refine (walk a0 a1 a2 a3 W w0 s1 w2 s3).mono fun e W' ⟨he, bel⟩ => ?_
  subst he
  exact ⟨_, rfl, _, _, _, [], [], [], hW', trodAll_mk1 (shut_bool Try.underlying4 _), (trodAll_cons_mk (shut_int Try.underlying3 w0) (trodAll_cons_mk (shut_string Try.underlying9 w1) (trodAll_cons_mk (shut_int Try.underlying3 w2) (trodAll_cons_mk (shut_string Try.underlying9 w3) trodAll_mk0)))), rfl, bel.frame _, fun h => by cases h⟩

theorem over : Rows.fqdnUnlikeRow.holds Try.pinned (OpenSpec.ofChange Rows.fqdnUnlikeSpec) :=
  OpenClaim.holds_of_wide 6 Try.f6 rfl rfl rfl rfl rfl rfl rfl ⟨rfl, rfl, rfl, rfl, rfl⟩ rfl rfl rfl rfl rfl (by kernel_rfl) Try.func6 (by kernel_rfl)
    (of_decide_eq_true (by kernel_rfl)) (by unfold Func.isWrapper; first | (rw [if_pos (by decide +kernel)]; kernel_rfl) | (rw [if_neg (by decide +kernel)]; exact ⟨rfl, rfl⟩))
    (fun os started H enc _ => lifted os started H enc)

/-- The given statement. -/
theorem proved : Rows.FqdnUnlikeSaid := over

end Go.Proofs.Yteaediobcjednaa.fqdnUnlike
namespace Go.Proofs.Yteaediobcjednaa
theorem fqdnUnlike_proved : Rows.FqdnUnlikeSaid := fqdnUnlike.proved
#print axioms fqdnUnlike_proved
end Go.Proofs.Yteaediobcjednaa
