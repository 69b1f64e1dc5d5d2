/-
  Proved here: pinfoldlaw2.NameForms answers true for every number (P2.1, P2.2: texts that are no names; what they are asked says no).
  Conditions: none but the row's own.
-/
import Derived.Test.YtcacfllfgbofeaaAwake2
import Derived.OpenShut
import Derived.ShutString
import Derived.ChangeOld
import Derived.SizedLaws
namespace Go.Proofs.Ytcacfllfgbofeaa.nameForms
open Go.ChangeShapes Go.WideShapes Go.ChangeAt Go.RowKit Go.Pin Go.PlainAid
open Go.ChangeMaps (open_string shut_string)

theorem under_no1 (s z : ByteArray) (w : World) (hs : s.size ≤ maxLen) (hz : z.size ≤ maxLen) (h : mayL (bs s) = false) : Calls Try.prog 16 #[.string s, .string z] w fun e w' => e = .returned (.bool false) ∧ Below w.heap.size w w' :=
  under_no s z w hs hz (.inl h)
theorem under_no2 (s z : ByteArray) (w : World) (hs : s.size ≤ maxLen) (hz : z.size ≤ maxLen) (h : mayL (bs z) = false) : Calls Try.prog 16 #[.string s, .string z] w fun e w' => e = .returned (.bool false) ∧ Below w.heap.size w w' :=
  under_no s z w hs hz (.inr (.inl h))
/-- Labels of what may not be: none. -/
theorem labels_none (s : ByteArray) (w : World) (hs : s.size ≤ maxLen) (h : mayL (bs s) = false) : Calls Try.prog 9 #[.string s] w fun e w' => (∃ a cap, e = .returned (.slice a 0 cap)) ∧ Below w.heap.size w w' := by
  refine (labels_is s [] w hs (labsL_no h)).mono ?_
  rintro e w' ⟨⟨v, rfl, ho⟩, hb⟩
  obtain ⟨a, cap, rfl⟩ := ho.form
  exact ⟨⟨a, cap, rfl⟩, hb⟩

theorem mod14 (a : Int) : let I := wrap64 ((IntKind.u64.wrap a).tmod 14); I = 0 ∨ I = 1 ∨ I = 2 ∨ I = 3 ∨ I = 4 ∨ I = 5 ∨ I = 6 ∨ I = 7 ∨ I = 8 ∨ I = 9 ∨ I = 10 ∨ I = 11 ∨ I = 12 ∨ I = 13 := by
  obtain ⟨I, h1, h2⟩ := pick_mod a 14 (by omega) (by omega)
  show wrap64 ((IntKind.u64.wrap a).tmod 14) = 0 ∨ _
  rw [h1]
  omega

set_option maxHeartbeats 4000000 in
theorem walk (a0 : Int) (w : World) (_w0 : (Lit.int .i64 a0).wf = true) :
    Calls Try.prog 5 #[.int .i64 a0] w fun e w' => e = .returned (.bool true) ∧ Below w.heap.size w w' := by
  have hI := mod14 a0
  dsimp only at hI
  rcases hI with hI | hI | hI | hI | hI | hI | hI | hI | hI | hI | hI | hI | hI | hI
  all_goals
    go_enter Try.func5, Try.ntmps5
    go_wp2_with fail
    refine (awake_yes _).mono ?_; rintro e x1 ⟨rfl, B⟩
    go_wp2_with fail
    refine (num_any _ _).mono ?_; rintro e x2 ⟨rfl, rfl⟩
    go_wp2_with fail
    refine (may_is _ false _ (by decide) (by decide)).mono ?_; rintro e x3 ⟨rfl, hb⟩
    replace B := bel_trans (B.alloc B.size _) hb
    clear hb
    go_wp2_with fail
    refine (labels_none _ _ (by decide) (by decide)).mono ?_; rintro e x4 ⟨⟨a, cap, rfl⟩, hb⟩
    replace B := bel_trans B hb
    clear hb
    go_wp2_with fail
    refine (under_no1 _ _ _ (by decide) (by decide) (by decide)).mono ?_; rintro e x5 ⟨rfl, hb⟩
    replace B := bel_trans B hb
    clear hb
    go_wp2_with fail
    refine (under_no2 _ _ _ (by decide) (by decide) (by decide)).mono ?_; rintro e x6 ⟨rfl, hb⟩
    replace B := bel_trans B hb
    clear hb
    go_wp2_with fail
    refine (under_no1 _ _ _ (by decide) (by decide) (by decide)).mono ?_; rintro e x7 ⟨rfl, hb⟩
    replace B := bel_trans B hb
    clear hb
    go_wp2_with fail
    refine (may_is _ true _ (by decide) (by decide)).mono ?_; rintro e x8 ⟨rfl, hb⟩
    replace B := bel_trans B hb
    clear hb
    go_wp2
    go_ret
    exact ⟨rfl, B⟩

theorem own : ownKnob Try.prog.godebug = none := by kernel_rfl
theorem laidOut : laidOutB Try.prog = true := by kernel_rfl

/-! ### The row's step -/
set_option maxRecDepth 100000 in
theorem lifted (os : Os) (started : os.Started) (H : Type) (enc : TypeId × Value → H) :
    ReturnsInHanded {} Try.checked os 5 .any (Rows.nameFormsSpec.pre6 enc Try.prog Try.f5 Rows.nameFormsRow.domain false) (Rows.nameFormsSpec.post enc Try.prog Try.f5 false true false false) := by
  refine returnsInHanded_of_change_sized (C := Try.checked) own started (by kernel_rfl) Try.func5
    (ChangeSpec.witness6 (enc := enc) (C := Try.checked) false ⟨#[], #[.int .i64 0], []⟩ 8 (by kernel_rfl) (by kernel_rfl) (by kernel_rfl) (by kernel_rfl)) ?_
  intro W base args ds gs before hval0 hW _ hsz0 _
  have hval : ∀ (j : Nat) t v, Try.f5.params[j]? = some t → args[j]? = some v → Value.okWide Try.prog W .any base t v := hval0
  have hsz : (DataW.weightsEach Try.prog (Try.f5.params.toList ++ Rows.nameFormsSpec.plain.varTypes Try.prog) (ds ++ gs)).all (· ≤ reachBytes) = true := hsz0
  have hW' := hW
  obtain ⟨p, q, hA0, hV, rfl, _, _⟩ := hW
  have hA : DataW.TrodAll enc Try.prog W 0 (fun _ => true) true Try.f5.params.toList args.toList ds p := hA0
  rw [Try.params5] at hA hval hsz
  obtain ⟨v0, vs0, d0, ds0, p0, q0, hargs, rfl, rfl, h0, r0⟩ := trodAll_cons hA
  obtain ⟨rfl, rfl, rfl⟩ := trodAll_nil r0
  obtain rfl : args = #[v0] := by cases args; simp_all
  obtain ⟨rfl, rfl⟩ := trodVars_none hV
  obtain ⟨a0, rfl, rfl, rfl, w0⟩ := open_int Try.underlying3 (hval 0 3 v0 rfl rfl) h0
  clear hA0 hval0 hsz0
  refine (walk a0 W w0).mono fun e W' ⟨he, bel⟩ => ?_
  subst he
  exact ⟨_, rfl, _, _, _, [], [], [], hW', trodAll_mk1 (shut_bool Try.underlying4 _), (trodAll_cons_mk (shut_int Try.underlying3 w0) trodAll_mk0), rfl, bel.frame _, fun h => by cases h⟩

theorem over : Rows.nameFormsRow.holds Try.pinned (OpenSpec.ofChange Rows.nameFormsSpec) :=
  OpenClaim.holds_of_wide 5 Try.f5 rfl rfl rfl rfl rfl rfl rfl ⟨rfl, rfl, rfl, rfl, rfl⟩ rfl rfl rfl rfl rfl (by kernel_rfl) Try.func5 (by kernel_rfl)
    (of_decide_eq_true (by kernel_rfl)) (by unfold Func.isWrapper; first | (rw [if_pos (by decide +kernel)]; kernel_rfl) | (rw [if_neg (by decide +kernel)]; exact ⟨rfl, rfl⟩))
    (fun os started H enc _ => lifted os started H enc)

/-- The given statement. -/
theorem proved : Rows.NameFormsSaid := over

end Go.Proofs.Ytcacfllfgbofeaa.nameForms
namespace Go.Proofs.Ytcacfllfgbofeaa
theorem nameForms_proved : Rows.NameFormsSaid := nameForms.proved
#print axioms nameForms_proved
end Go.Proofs.Ytcacfllfgbofeaa
