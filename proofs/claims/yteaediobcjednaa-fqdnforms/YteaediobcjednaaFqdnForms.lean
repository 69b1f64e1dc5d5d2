/-
  Proved here: pinfoldlaw8.FqdnForms answers true for every two numbers (P8.1, P8.2: flags, names that are none, bytes that are no name).
  Conditions: none but the row's own.
-/
import Derived.Test.YteaediobcjednaaAwake8
import Derived.OpenShut
import Derived.ShutString
import Derived.ChangeOld
import Derived.SizedLaws
namespace Go.Proofs.Yteaediobcjednaa.fqdnForms
open Go.ChangeShapes Go.WideShapes Go.ChangeAt Go.RowKit Go.Pin Go.PlainAid
open Go.ChangeMaps (open_string shut_string)

/-- The texts that are none. -/
def bad : List ByteArray := [⟨#[]⟩, ⟨#[4]⟩, ⟨#[4, 0]⟩, ⟨#[0, 0, 0]⟩, ⟨#[16, 0, 0]⟩, ⟨#[4, 0, 0, 2, 97]⟩, ⟨#[4, 0, 0, 1, 97, 0, 0]⟩, ⟨#[4, 0, 0, 1, 95]⟩, ⟨#[4, 0, 0, 192, 0]⟩, ⟨#[4, 0, 0, 9, 97, 98, 99, 100, 101, 102, 103, 104, 105]⟩, ⟨#[4, 0, 0, 1, 97, 0, 98]⟩]
theorem bad_no : ∀ s ∈ bad, s.size ≤ 281474976710656 ∧ getF (bs s) = none := by
  intro s hs
  simp only [bad, List.mem_cons, List.not_mem_nil, or_false] at hs
  rcases hs with rfl | rfl | rfl | rfl | rfl | rfl | rfl | rfl | rfl | rfl | rfl <;> exact ⟨by decide, by decide +kernel⟩
def flags (d : Int) : List Int := [0, 3, 8, -d, 15 + d]
theorem flags_no (d : Int) (h : 1 ≤ d) : ∀ f ∈ flags d, mayF f = false := by
  intro f hf
  simp only [flags, List.mem_cons, List.not_mem_nil, or_false] at hf
  rcases hf with rfl | rfl | rfl | rfl | rfl
  · rfl
  · rfl
  · rfl
  · simp [mayF]; omega
  · simp [mayF]; omega
set_option maxHeartbeats 1000000 in
theorem walk (a b : Int) (w : World) (_w0 : (Lit.int .i64 a).wf = true) (_w1 : (Lit.int .i64 b).wf = true) :
    Calls Try.prog 5 #[.int .i64 a, .int .i64 b] w fun e w' => e = .returned (.bool true) ∧ Below w.heap.size w w' := by
  obtain ⟨I, hI, hIl⟩ := pick_mod a 5 (by omega) (by omega)
  obtain ⟨J, hJ, hJl⟩ := pick_mod a 11 (by omega) (by omega)
  have hmask : bits .and .i64 b 1023 = b % 1024 := i64_mask 10 b (by omega)
  obtain ⟨d, hd⟩ : ∃ d : Nat, 1 + b % 1024 = d := ⟨(1 + b % 1024).toNat, by omega⟩
  have hd1 : 1 ≤ (d : Int) ∧ (d : Int) ≤ 1024 := by omega
  obtain ⟨f, hf⟩ : ∃ f, (flags d)[I]? = some f := ⟨_, List.getElem?_eq_getElem (by simp [flags]; omega)⟩
  obtain ⟨s, hs⟩ : ∃ s, bad[J]? = some s := ⟨_, List.getElem?_eq_getElem (by simp [bad]; omega)⟩
  have nf := flags_no d hd1.1 f (List.mem_of_getElem? hf)
  obtain ⟨ns1, ns2⟩ := bad_no s (List.mem_of_getElem? hs)
  have P1 : Hid (∀ w, _) := fun w => fPut_is f ⟨#[97]⟩ ⟨#[]⟩ 800 w (by decide) (by unfold putF; rw [nf]; rfl)
  have P2 : Hid (∀ w, _) := fun w => fPut_is 4 ⟨#[65]⟩ ⟨#[]⟩ 800 w (by decide) (by decide +kernel)
  have G1 : Hid (∀ w, _) := fun w => fGet_no s w ns1 ns2
  have G2 : Hid (∀ w, _) := fun w => fGet_yes ⟨#[15, 7, 8]⟩ ⟨#[]⟩ 15 w (by decide) (by decide +kernel)
  have HW : Hid (∀ w, _) := fun w => awake8_yes w
  have hc1 : Hid (∀ (w : World) (t : TypeId), (w.alloc (.cells #[.int .i64 0, .int .i64 3, .int .i64 8, .int .i64 (-(d : Int)), .int .i64 (15 + (d : Int))] t)).cell? ⟨w.heap.size, I, none⟩ = some (.int .i64 f)) := fun w t => new_cell w _ _ _ _ (by
    have : ((flags d).map (Value.int .i64))[I]? = some (.int .i64 f) := by rw [List.getElem?_map, hf]; rfl
    simpa [flags] using this)
  have hc2 : Hid (∀ (w : World) (t : TypeId), (w.alloc (.cells (bad.map Value.string).toArray t)).cell? ⟨w.heap.size, J, none⟩ = some (.string s)) := fun w t => new_cell w _ _ _ _ (by
    rw [List.getElem?_toArray, List.getElem?_map, hs]; rfl)
  simp only [bad, List.map_cons, List.map_nil] at hc2
  clear hf hs nf ns1 ns2
  go_enter Try.func5, Try.ntmps5
  go_wp2_with fail
  refine (HW.out _).mono ?_; rintro e w1 ⟨rfl, B⟩
  have c1 := hc1.out w1 3
  go_wp2_with fail
  refine (P1.out _).mono ?_; rintro e w2 ⟨rfl, hb⟩
  replace B := B.trans (((Below.refl w1.heap.size w1).alloc (Nat.le_refl _) _).trans (hb.mono (by simp)) |>.mono B.size)
  clear hb c1
  go_wp2_with fail
  refine (P2.out _).mono ?_; rintro e w3 ⟨rfl, hb⟩
  replace B := bel_trans B hb
  clear hb
  have c2 := hc2.out w3 9
  go_wp2_with fail
  refine (G1.out _).mono ?_; rintro e w4 ⟨rfl, hb⟩
  replace B := B.trans (((Below.refl w3.heap.size w3).alloc (Nat.le_refl _) _).trans (hb.mono (by simp)) |>.mono B.size)
  clear hb c2
  go_wp2_with fail
  refine (G2.out _).mono ?_; rintro e w5 ⟨rfl, hb⟩
  replace B := bel_trans B hb
  clear hb
  go_wp2_with (go_at_call 11; refine (num_any _ _).mono ?_; rintro e w6 ⟨rfl, rfl⟩)
  go_ret
  exact ⟨rfl, B⟩

theorem own : ownKnob Try.prog.godebug = none := by kernel_rfl
theorem laidOut : laidOutB Try.prog = true := by kernel_rfl

/-! ### The row's step -/
set_option maxRecDepth 100000 in
theorem lifted (os : Os) (started : os.Started) (H : Type) (enc : TypeId × Value → H) :
    ReturnsInHanded {} Try.checked os 5 .any (Rows.fqdnFormsSpec.pre6 enc Try.prog Try.f5 Rows.fqdnFormsRow.domain false) (Rows.fqdnFormsSpec.post enc Try.prog Try.f5 false true false false) := by
  refine returnsInHanded_of_change_sized (C := Try.checked) own started (by kernel_rfl) Try.func5
    (ChangeSpec.witness6 (enc := enc) (C := Try.checked) false ⟨#[], #[.int .i64 0, .int .i64 0], []⟩ 8 (by kernel_rfl) (by kernel_rfl) (by kernel_rfl) (by kernel_rfl)) ?_
  intro W base args ds gs before hval0 hW _ hsz0 _
  have hval : ∀ (j : Nat) t v, Try.f5.params[j]? = some t → args[j]? = some v → Value.okWide Try.prog W .any base t v := hval0
  have hsz : (DataW.weightsEach Try.prog (Try.f5.params.toList ++ Rows.fqdnFormsSpec.plain.varTypes Try.prog) (ds ++ gs)).all (· ≤ reachBytes) = true := hsz0
  have hW' := hW
  obtain ⟨p, q, hA0, hV, rfl, _, _⟩ := hW
  have hA : DataW.TrodAll enc Try.prog W 0 (fun _ => true) true Try.f5.params.toList args.toList ds p := hA0
  rw [Try.params5] at hA hval hsz
  obtain ⟨v0, vs0, d0, ds0, p0, q0, hargs, rfl, rfl, h0, r0⟩ := trodAll_cons hA
  obtain ⟨v1, vs1, d1, ds1, p1, q1, rfl, rfl, rfl, h1, r1⟩ := trodAll_cons r0
  obtain ⟨rfl, rfl, rfl⟩ := trodAll_nil r1
  obtain rfl : args = #[v0, v1] := by cases args; simp_all
  obtain ⟨rfl, rfl⟩ := trodVars_none hV
  obtain ⟨a0, rfl, rfl, rfl, w0⟩ := open_int Try.underlying3 (hval 0 3 v0 rfl rfl) h0
  obtain ⟨a1, rfl, rfl, rfl, w1⟩ := open_int Try.underlying3 (hval 1 3 v1 rfl rfl) h1
  clear hA0 hval0 hsz0
  refine (walk a0 a1 W w0 w1).mono fun e W' ⟨he, bel⟩ => ?_
  subst he
  exact ⟨_, rfl, _, _, _, [], [], [], hW', trodAll_mk1 (shut_bool Try.underlying4 _), (trodAll_cons_mk (shut_int Try.underlying3 w0) (trodAll_cons_mk (shut_int Try.underlying3 w1) trodAll_mk0)), rfl, bel.frame _, fun h => by cases h⟩

theorem over : Rows.fqdnFormsRow.holds Try.pinned (OpenSpec.ofChange Rows.fqdnFormsSpec) :=
  OpenClaim.holds_of_wide 5 Try.f5 rfl rfl rfl rfl rfl rfl rfl ⟨rfl, rfl, rfl, rfl, rfl⟩ rfl rfl rfl rfl rfl (by kernel_rfl) Try.func5 (by kernel_rfl)
    (of_decide_eq_true (by kernel_rfl)) (by unfold Func.isWrapper; first | (rw [if_pos (by decide +kernel)]; kernel_rfl) | (rw [if_neg (by decide +kernel)]; exact ⟨rfl, rfl⟩))
    (fun os started H enc _ => lifted os started H enc)

/-- The given statement. -/
theorem proved : Rows.FqdnFormsSaid := over

end Go.Proofs.Yteaediobcjednaa.fqdnForms
namespace Go.Proofs.Yteaediobcjednaa
theorem fqdnForms_proved : Rows.FqdnFormsSaid := fqdnForms.proved
#print axioms fqdnForms_proved
end Go.Proofs.Yteaediobcjednaa
