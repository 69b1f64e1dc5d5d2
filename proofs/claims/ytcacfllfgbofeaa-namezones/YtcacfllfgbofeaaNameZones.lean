/-
  Proved here: pinfoldlaw2.NameZones answers true for every three texts (P2.2: of two zones of one name one is under the other).
  Conditions: none but the row's own.
-/
import Derived.Test.YtcacfllfgbofeaaAwake2
import Derived.Test.YtcacfllfgbofeaaNameMore
import Derived.OpenShut
import Derived.ShutString
import Derived.ChangeOld
import Derived.SizedLaws
namespace Go.Proofs.Ytcacfllfgbofeaa.nameZones
open Go.ChangeShapes Go.WideShapes Go.ChangeAt Go.RowKit Go.Pin Go.PlainAid
open Go.ChangeMaps (open_string shut_string)

theorem walk (a0 a1 a2 : ByteArray) (w : World) (w0 : a0.size ≤ 140737488351232) (w1 : a1.size ≤ 140737488351232) (w2 : a2.size ≤ 140737488351232) :
    Calls Try.prog 8 #[.string a0, .string a1, .string a2] w fun e w' => e = .returned (.bool true) ∧ Below w.heap.size w w' := by
  have m0 : Hid (a0.size ≤ maxLen) := by unfold Hid maxLen; omega
  have m1 : Hid (a1.size ≤ maxLen) := by unfold Hid maxLen; omega
  have m2 : Hid (a2.size ≤ maxLen) := by unfold Hid maxLen; omega
  clear w0 w1 w2
  cases h1 : underL (bs a0) (bs a1) with
  | false =>
    have H1 : Hid (underL (bs a0) (bs a1) = false) := h1
    clear h1
    go_enter Try.func8, Try.ntmps8
    go_wp2_with fail
    refine (awake_yes _).mono ?_; rintro e x1 ⟨rfl, B⟩
    go_wp2_with fail
    refine (under_is _ _ _ _ m0.out m1.out H1.out).mono ?_; rintro e x2 ⟨rfl, hb⟩
    replace B := bel_trans B hb
    clear hb
    go_wp2
    go_ret
    exact ⟨rfl, B⟩
  | true =>
    have H1 : Hid (underL (bs a0) (bs a1) = true) := h1
    clear h1
    cases h2 : underL (bs a0) (bs a2) with
    | false =>
      have H2 : Hid (underL (bs a0) (bs a2) = false) := h2
      clear h2
      go_enter Try.func8, Try.ntmps8
      go_wp2_with fail
      refine (awake_yes _).mono ?_; rintro e x1 ⟨rfl, B⟩
      go_wp2_with fail
      refine (under_is _ _ _ _ m0.out m1.out H1.out).mono ?_; rintro e x2 ⟨rfl, hb⟩
      replace B := bel_trans B hb
      clear hb
      go_wp2_with fail
      refine (under_is _ _ _ _ m0.out m2.out H2.out).mono ?_; rintro e x3 ⟨rfl, hb⟩
      replace B := bel_trans B hb
      clear hb
      go_wp2
      go_ret
      exact ⟨rfl, B⟩
    | true =>
      have H2 : Hid (underL (bs a0) (bs a2) = true) := h2
      clear h2
      have hu := under_two H1.out H2.out
      cases h3 : underL (bs a1) (bs a2) with
      | false =>
        have H3 : Hid (underL (bs a1) (bs a2) = false) := h3
        have H4 : Hid (underL (bs a2) (bs a1) = true) := hu.resolve_left (by rw [h3]; simp)
        clear h3 hu
        go_enter Try.func8, Try.ntmps8
        go_wp2_with fail
        refine (awake_yes _).mono ?_; rintro e x1 ⟨rfl, B⟩
        go_wp2_with fail
        refine (under_is _ _ _ _ m0.out m1.out H1.out).mono ?_; rintro e x2 ⟨rfl, hb⟩
        replace B := bel_trans B hb
        clear hb
        go_wp2_with fail
        refine (under_is _ _ _ _ m0.out m2.out H2.out).mono ?_; rintro e x3 ⟨rfl, hb⟩
        replace B := bel_trans B hb
        clear hb
        go_wp2_with fail
        refine (under_is _ _ _ _ m1.out m2.out H3.out).mono ?_; rintro e x4 ⟨rfl, hb⟩
        replace B := bel_trans B hb
        clear hb
        go_wp2_with fail
        refine (under_is _ _ _ _ m2.out m1.out H4.out).mono ?_; rintro e x5 ⟨rfl, hb⟩
        replace B := bel_trans B hb
        clear hb
        go_wp2_with fail
        refine (under_is _ _ _ _ m1.out m2.out H3.out).mono ?_; rintro e x6 ⟨rfl, hb⟩
        replace B := bel_trans B hb
        clear hb
        go_wp2_with fail
        refine (num_any _ _).mono ?_; rintro e x7 ⟨rfl, rfl⟩
        go_wp2
        go_ret
        exact ⟨rfl, B⟩
      | true =>
        have H3 : Hid (underL (bs a1) (bs a2) = true) := h3
        cases h4 : underL (bs a2) (bs a1) with
        | false =>
          have H4 : Hid (underL (bs a2) (bs a1) = false) := h4
          clear h3 hu h4
          go_enter Try.func8, Try.ntmps8
          go_wp2_with fail
          refine (awake_yes _).mono ?_; rintro e x1 ⟨rfl, B⟩
          go_wp2_with fail
          refine (under_is _ _ _ _ m0.out m1.out H1.out).mono ?_; rintro e x2 ⟨rfl, hb⟩
          replace B := bel_trans B hb
          clear hb
          go_wp2_with fail
          refine (under_is _ _ _ _ m0.out m2.out H2.out).mono ?_; rintro e x3 ⟨rfl, hb⟩
          replace B := bel_trans B hb
          clear hb
          go_wp2_with fail
          refine (under_is _ _ _ _ m1.out m2.out H3.out).mono ?_; rintro e x4 ⟨rfl, hb⟩
          replace B := bel_trans B hb
          clear hb
          go_wp2_with fail
          refine (under_is _ _ _ _ m1.out m2.out H3.out).mono ?_; rintro e x6 ⟨rfl, hb⟩
          replace B := bel_trans B hb
          clear hb
          go_wp2_with fail
          refine (under_is _ _ _ _ m2.out m1.out H4.out).mono ?_; rintro e x5 ⟨rfl, hb⟩
          replace B := bel_trans B hb
          clear hb
          go_wp2_with fail
          refine (num_any _ _).mono ?_; rintro e x7 ⟨rfl, rfl⟩
          go_wp2
          go_ret
          exact ⟨rfl, B⟩
        | true =>
          have H4 : Hid (underL (bs a2) (bs a1) = true) := h4
          have he := eq_yes (bs_inj (under_both h3 h4))
          clear h3 hu h4
          go_enter Try.func8, Try.ntmps8
          go_wp2_with fail
          refine (awake_yes _).mono ?_; rintro e x1 ⟨rfl, B⟩
          go_wp2_with fail
          refine (under_is _ _ _ _ m0.out m1.out H1.out).mono ?_; rintro e x2 ⟨rfl, hb⟩
          replace B := bel_trans B hb
          clear hb
          go_wp2_with fail
          refine (under_is _ _ _ _ m0.out m2.out H2.out).mono ?_; rintro e x3 ⟨rfl, hb⟩
          replace B := bel_trans B hb
          clear hb
          go_wp2_with fail
          refine (under_is _ _ _ _ m1.out m2.out H3.out).mono ?_; rintro e x4 ⟨rfl, hb⟩
          replace B := bel_trans B hb
          clear hb
          go_wp2_with fail
          refine (under_is _ _ _ _ m1.out m2.out H3.out).mono ?_; rintro e x6 ⟨rfl, hb⟩
          replace B := bel_trans B hb
          clear hb
          go_wp2_with fail
          refine (under_is _ _ _ _ m2.out m1.out H4.out).mono ?_; rintro e x5 ⟨rfl, hb⟩
          replace B := bel_trans B hb
          clear hb
          go_wp2_with fail
          refine (num_any _ _).mono ?_; rintro e x7 ⟨rfl, rfl⟩
          go_wp2
          go_ret
          exact ⟨rfl, B⟩

theorem own : ownKnob Try.prog.godebug = none := by kernel_rfl
theorem laidOut : laidOutB Try.prog = true := by kernel_rfl

/-! ### The row's step -/
set_option maxRecDepth 100000 in
theorem lifted (os : Os) (started : os.Started) (H : Type) (enc : TypeId × Value → H) :
    ReturnsInHanded {} Try.checked os 8 .any (Rows.nameZonesSpec.pre6 enc Try.prog Try.f8 Rows.nameZonesRow.domain false) (Rows.nameZonesSpec.post enc Try.prog Try.f8 false true false false) := by
  refine returnsInHanded_of_change_sized (C := Try.checked) own started (by kernel_rfl) Try.func8
    (ChangeSpec.witness6 (enc := enc) (C := Try.checked) false ⟨#[], #[.string ByteArray.empty, .string ByteArray.empty, .string ByteArray.empty], []⟩ 8 (by kernel_rfl) (by kernel_rfl) (by kernel_rfl) (by kernel_rfl)) ?_
  intro W base args ds gs before hval0 hW _ hsz0 _
  have hval : ∀ (j : Nat) t v, Try.f8.params[j]? = some t → args[j]? = some v → Value.okWide Try.prog W .any base t v := hval0
  have hsz : (DataW.weightsEach Try.prog (Try.f8.params.toList ++ Rows.nameZonesSpec.plain.varTypes Try.prog) (ds ++ gs)).all (· ≤ reachBytes) = true := hsz0
  have hW' := hW
  obtain ⟨p, q, hA0, hV, rfl, _, _⟩ := hW
  have hA : DataW.TrodAll enc Try.prog W 0 (fun _ => true) true Try.f8.params.toList args.toList ds p := hA0
  rw [Try.params8] at hA hval hsz
  obtain ⟨v0, vs0, d0, ds0, p0, q0, hargs, rfl, rfl, h0, r0⟩ := trodAll_cons hA
  obtain ⟨v1, vs1, d1, ds1, p1, q1, rfl, rfl, rfl, h1, r1⟩ := trodAll_cons r0
  obtain ⟨v2, vs2, d2, ds2, p2, q2, rfl, rfl, rfl, h2, r2⟩ := trodAll_cons r1
  obtain ⟨rfl, rfl, rfl⟩ := trodAll_nil r2
  obtain rfl : args = #[v0, v1, v2] := by cases args; simp_all
  obtain ⟨rfl, rfl⟩ := trodVars_none hV
  obtain ⟨a0, rfl, rfl, rfl, w0⟩ := open_string Try.underlying9 (hval 0 9 v0 rfl rfl) h0
  have s0 : a0.size ≤ 140737488351232 := by have := sized_string hsz (j := 0) (t := 9) rfl rfl; simpa [reachBytes] using this
  obtain ⟨a1, rfl, rfl, rfl, w1⟩ := open_string Try.underlying9 (hval 1 9 v1 rfl rfl) h1
  have s1 : a1.size ≤ 140737488351232 := by have := sized_string hsz (j := 1) (t := 9) rfl rfl; simpa [reachBytes] using this
  obtain ⟨a2, rfl, rfl, rfl, w2⟩ := open_string Try.underlying9 (hval 2 9 v2 rfl rfl) h2
  have s2 : a2.size ≤ 140737488351232 := by have := sized_string hsz (j := 2) (t := 9) rfl rfl; simpa [reachBytes] using this
  clear hA0 hval0 hsz0
  refine (walk a0 a1 a2 W s0 s1 s2).mono fun e W' ⟨he, bel⟩ => ?_
  subst he
  exact ⟨_, rfl, _, _, _, [], [], [], hW', trodAll_mk1 (shut_bool Try.underlying4 _), (trodAll_cons_mk (shut_string Try.underlying9 w0) (trodAll_cons_mk (shut_string Try.underlying9 w1) (trodAll_cons_mk (shut_string Try.underlying9 w2) trodAll_mk0))), rfl, bel.frame _, fun h => by cases h⟩

theorem over : Rows.nameZonesRow.holds Try.pinned (OpenSpec.ofChange Rows.nameZonesSpec) :=
  OpenClaim.holds_of_wide 8 Try.f8 rfl rfl rfl rfl rfl rfl rfl ⟨rfl, rfl, rfl, rfl, rfl⟩ rfl rfl rfl rfl rfl (by kernel_rfl) Try.func8 (by kernel_rfl)
    (of_decide_eq_true (by kernel_rfl)) (by unfold Func.isWrapper; first | (rw [if_pos (by decide +kernel)]; kernel_rfl) | (rw [if_neg (by decide +kernel)]; exact ⟨rfl, rfl⟩))
    (fun os started H enc _ => lifted os started H enc)

/-- The given statement. -/
theorem proved : Rows.NameZonesSaid := over

end Go.Proofs.Ytcacfllfgbofeaa.nameZones
namespace Go.Proofs.Ytcacfllfgbofeaa
theorem nameZones_proved : Rows.NameZonesSaid := nameZones.proved
#print axioms nameZones_proved
end Go.Proofs.Ytcacfllfgbofeaa
