/-
  Proved here: pinfoldlaw8.Fqdns answers true for every number and every two texts of at most 1048576 bytes (P8.1, P8.2: Put and Get answer what the document's own functions do).
  Conditions: none but the row's own (its second form: sizes up to 1048576).
-/
import Derived.Test.YteaediobcjednaaAwake8
import Derived.Test.YteaediobcjednaaFqdnRef
import Derived.OpenShut
import Derived.ShutString
import Derived.JoinedCond
namespace Go.Proofs.Yteaediobcjednaa.fqdns
open Go.ChangeShapes Go.WideShapes Go.ChangeAt Go.RowKit Go.Pin Go.PlainAid
open Go.ChangeMaps (open_string shut_string)

set_option maxHeartbeats 1000000 in
theorem walk (f : Int) (n s : ByteArray) (w : World) (_w0 : (Lit.int .i64 f).wf = true) (hn : n.size ≤ 1048576) (hs : s.size ≤ 1048576) :
    Calls Try.prog 3 #[.int .i64 f, .string n, .string s] w fun e w' => e = .returned (.bool true) ∧ Below w.heap.size w w' := by
  have HP : Hid (∀ w, _) := fun w => fPut_c f n w (by unfold maxLen; omega)
  have HQ : Hid (∀ w, _) := fun w => rfPut_c f n w hn
  have HG : Hid (∀ w, _) := fun w => fGet_c s w (by omega)
  have HR : Hid (∀ w, _) := fun w => rfGet_c s w hs
  have HW : Hid (∀ w, _) := fun w => awake8_yes w
  obtain ⟨v, N, E, hE⟩ : ∃ v N E, fqG (getF (bs s)) = .returned (.tuple #[.int .i64 v, .string N, .int .i64 E]) := by
    cases getF (bs s) with
    | none => exact ⟨_, _, _, rfl⟩
    | some q => exact ⟨_, _, _, rfl⟩
  rw [hE] at HG HR
  generalize fqA (putF f (bs n)) = A at *
  obtain ⟨S, D⟩ := A
  simp only at HP HQ
  clear hE hn hs
  go_enter Try.func3, Try.ntmps3
  go_wp2_with fail
  refine (HP.out _).mono ?_; rintro e w1 ⟨rfl, B⟩
  go_wp2_with fail
  refine (HQ.out _).mono ?_; rintro e w2 ⟨rfl, hb⟩
  replace B := bel_trans B hb
  clear hb
  go_wp2_with fail
  refine (HG.out _).mono ?_; rintro e w3 ⟨rfl, hb⟩
  replace B := bel_trans B hb
  clear hb
  go_wp2_with fail
  refine (HR.out _).mono ?_; rintro e w4 ⟨rfl, hb⟩
  replace B := bel_trans B hb
  clear hb
  go_wp2_with (first | (go_at_call 11; refine (num_any _ _).mono ?_; rintro e w6 ⟨rfl, rfl⟩) | fail)
  refine (HW.out _).mono ?_; rintro e w7 ⟨rfl, hb⟩
  replace B := bel_trans B hb
  clear hb
  go_wp2
  go_ret
  exact ⟨rfl, B⟩

theorem own : ownKnob Try.prog.godebug = none := by kernel_rfl

/-! ### The row's step -/
set_option maxRecDepth 100000 in
theorem lifted (os : Os) (started : os.Started) (H : Type) (enc : TypeId × Value → H) (F : Stop.Interp) :
    ReturnsInHanded {} Try.checked os 3 .any ((Rows.OpenSpec.upto Rows.fqdnsSpec).pre6 enc Try.prog Try.f3 Rows.fqdnsUptoRow.domain false) (((Rows.OpenSpec.upto Rows.fqdnsSpec).at F).post enc Try.prog Try.f3 false true false false) := by
  refine returnsInHanded_of_cond (C := Try.checked) (s := Rows.OpenSpec.upto Rows.fqdnsSpec) (k := Rows.uptoSmall) rfl own started (by kernel_rfl) Try.func3
    (OpenSpec.witness (enc := enc) (C := Try.checked) (s := Rows.OpenSpec.upto Rows.fqdnsSpec) (k := Rows.uptoSmall) rfl false ⟨#[], #[.int .i64 0, .string ByteArray.empty, .string ByteArray.empty], []⟩ 8 (by kernel_rfl) (by kernel_rfl) (by kernel_rfl)
      (x := ([.lit (.int .i64 0), .lit (.string []), .lit (.string [])], [], [])) (by kernel_rfl) rfl (by kernel_rfl)) ?_
  intro W base args ds gs before hval0 hW _ hk _
  have hval : ∀ (j : Nat) t v, Try.f3.params[j]? = some t → args[j]? = some v → Value.okWide Try.prog W .any base t v := hval0
  have hW' := hW
  obtain ⟨p, q, hA0, hV, rfl, _, _⟩ := hW
  have hA : DataW.TrodAll enc Try.prog W 0 (fun _ => true) true Try.f3.params.toList args.toList ds p := hA0
  rw [Try.params3] at hA hval
  obtain ⟨v0, vs0, d0, ds0, p0, q0, hargs, rfl, rfl, h0, r0⟩ := trodAll_cons hA
  obtain ⟨v1, vs1, d1, ds1, p1, q1, rfl, rfl, rfl, h1, r1⟩ := trodAll_cons r0
  obtain ⟨v2, vs2, d2, ds2, p2, q2, rfl, rfl, rfl, h2, r2⟩ := trodAll_cons r1
  obtain ⟨rfl, rfl, rfl⟩ := trodAll_nil r2
  obtain rfl : args = #[v0, v1, v2] := by cases args; simp_all
  obtain ⟨rfl, rfl⟩ := trodVars_none hV
  have hb := of_decide_eq_true hk
  simp only [List.append_nil, Rows.uptoBulkAll] at hb
  obtain ⟨a0, rfl, rfl, rfl, w0⟩ := open_int Try.underlying3 (hval 0 3 v0 rfl rfl) h0
  obtain ⟨a1, rfl, rfl, rfl, w1⟩ := open_string Try.underlying9 (hval 1 9 v1 rfl rfl) h1
  have l1 : a1.data.toList.length = a1.size := Array.length_toList
  obtain ⟨a2, rfl, rfl, rfl, w2⟩ := open_string Try.underlying9 (hval 2 9 v2 rfl rfl) h2
  have l2 : a2.data.toList.length = a2.size := Array.length_toList
  simp only [Rows.uptoBulk] at hb
  have s1 : a1.size ≤ 1048576 := by omega
  have s2 : a2.size ≤ 1048576 := by omega
  clear hA0 hval0 hb hk
  refine (walk a0 a1 a2 W w0 s1 s2).mono fun e W' ⟨he, bel⟩ => ?_
  subst he
  exact ⟨_, rfl, _, _, _, [], [], [], hW', trodAll_mk1 (shut_bool Try.underlying4 _), (trodAll_cons_mk (shut_int Try.underlying3 w0) (trodAll_cons_mk (shut_string Try.underlying9 w1) (trodAll_cons_mk (shut_string Try.underlying9 w2) trodAll_mk0))), rfl, bel.frame _, fun h => by cases h⟩

/-- The given statement. -/
theorem proved : Rows.FqdnsUptoSaid :=
  OpenClaim.holds_of_cond 3 Try.f3 rfl rfl rfl rfl rfl rfl rfl ⟨rfl, rfl, rfl, rfl, rfl⟩ rfl rfl rfl rfl rfl (by kernel_rfl) Try.func3 (by kernel_rfl)
    (of_decide_eq_true (by kernel_rfl)) (by unfold Func.isWrapper; first | (rw [if_pos (by decide +kernel)]; kernel_rfl) | (rw [if_neg (by decide +kernel)]; exact ⟨rfl, rfl⟩))
    (fun os started H enc _ F => lifted os started H enc F)

end Go.Proofs.Yteaediobcjednaa.fqdns
namespace Go.Proofs.Yteaediobcjednaa
theorem fqdns_proved : Rows.FqdnsUptoSaid := fqdns.proved
#print axioms fqdns_proved
end Go.Proofs.Yteaediobcjednaa
