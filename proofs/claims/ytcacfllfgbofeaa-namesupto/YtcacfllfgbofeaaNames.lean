/-
  Proved here: pinfoldlaw2.Names answers true for every two texts of together at most 1,048,576 values and letters (P2.1, P2.2, R4: every call of package name answers as the document's answer does, and what it answered may be written over).
  Conditions: the bound of the second form ('..UptoSaid').
-/
import Derived.Test.YtcacfllfgbofeaaAwake2
import Derived.Test.YtcacfllfgbofeaaNameRef
import Derived.OpenShut
import Derived.ShutString
import Derived.JoinedCond
namespace Go.Proofs.Ytcacfllfgbofeaa.names
open Go.ChangeShapes Go.WideShapes Go.ChangeAt Go.RowKit Go.Pin Go.PlainAid
open Go.ChangeMaps (open_string shut_string)

set_option maxHeartbeats 800000 in
theorem walk (a0 a1 : ByteArray) (w : World) (w0 : a0.size ≤ 1048576) (w1 : a1.size ≤ 1048576) :
    Calls Try.prog 3 #[.string a0, .string a1] w fun e w' => e = .returned (.bool true) ∧ Below w.heap.size w w' := by
  have m0 : Hid (a0.size ≤ maxLen) := by unfold Hid maxLen; omega
  have m1 : Hid (a1.size ≤ maxLen) := by unfold Hid maxLen; omega
  have k0 : Hid (a0.size ≤ 1048576) := w0
  have k1 : Hid (a1.size ≤ 1048576) := w1
  clear w0 w1
  obtain ⟨ls, hls⟩ : ∃ ls, labsL (bs a0) = ls := ⟨_, rfl⟩
  have HL : Hid (labsL (bs a0) = ls) := hls
  have hl8 : ls.length ≤ 8 := by rw [← hls]; exact labsL_len _
  have Hok : Hid (∀ x ∈ ls, okL x = true) := by intro x hx; rw [← hls] at hx; exact labsL_ok hx
  clear hls
  obtain ⟨M, hM⟩ : ∃ M, mayL (bs a0) = M := ⟨_, rfl⟩
  have HM : Hid (mayL (bs a0) = M) := hM
  obtain ⟨U, hU⟩ : ∃ U, underL (bs a0) (bs a1) = U := ⟨_, rfl⟩
  have HU : Hid (underL (bs a0) (bs a1) = U) := hU
  obtain ⟨T, hT⟩ : ∃ T, mk (foldL (bs a0)) = T := ⟨_, rfl⟩
  have HT : Hid (mk (foldL (bs a0)) = T) := hT
  clear hM hU hT
  go_enter Try.func3, Try.ntmps3
  go_wp2_with fail
  refine (labels_is _ _ _ m0.out HL.out).mono ?_; rintro e x1 ⟨⟨v, rfl, ho⟩, B⟩
  go_wp2_with fail
  refine (may_is _ _ _ m0.out HM.out).mono ?_; rintro e x2 ⟨rfl, hb⟩
  replace B := bel_trans B hb
  replace ho := ho.below hb
  clear hb
  go_wp2_with fail
  refine (nameMay_c _ _ k0.out).mono ?_; rintro e x3 ⟨rfl, hb⟩
  rw [HM.out]
  replace B := bel_trans B hb
  replace ho := ho.below hb
  clear hb
  go_wp2_with fail
  refine (fold_is _ _ _ m0.out HT.out).mono ?_; rintro e x4 ⟨rfl, hb⟩
  replace B := bel_trans B hb
  replace ho := ho.below hb
  clear hb
  go_wp2_with fail
  refine (rfold_c _ _ m0.out).mono ?_; rintro e x5 ⟨rfl, hb⟩
  rw [HT.out]
  replace B := bel_trans B hb
  replace ho := ho.below hb
  clear hb
  go_wp2_with fail
  refine (rlabels_c _ _ k0.out).mono ?_; rintro e x6 ⟨⟨v2, rfl, ho2⟩, hb⟩
  rw [HL.out] at ho2
  replace B := bel_trans B hb
  replace ho := ho.below hb
  clear hb
  obtain ⟨a, cap, rfl, hl⟩ := ho.lies
  obtain ⟨a2, cap2, rfl, hl2⟩ := ho2.lies
  go_wp2_with fail
  refine (same_is _ _ ls _ _ _ _ _ rfl rfl (by omega) hl hl2).mono ?_; rintro e x7 ⟨rfl, hb⟩
  replace B := bel_trans B hb
  replace ho := ho.below hb
  clear hb ho2 hl hl2
  go_wp2_with fail
  refine (under_is _ _ _ _ m0.out m1.out HU.out).mono ?_; rintro e x8 ⟨rfl, hb⟩
  replace B := bel_trans B hb
  replace ho := ho.below hb
  clear hb
  go_wp2_with fail
  refine (runder_c _ _ _ k0.out k1.out).mono ?_; rintro e x9 ⟨rfl, hb⟩
  rw [HU.out]
  replace B := bel_trans B hb
  replace ho := ho.below hb
  clear hb
  go_wp2_with fail
  refine (spoil_c _ ls _ _ hl8 Hok.out ho).mono ?_; rintro e y1 ⟨rfl, hb⟩
  replace B := B.trans hb
  clear hb ho
  go_wp2_with fail
  refine (labels_is _ _ _ m0.out HL.out).mono ?_; rintro e y2 ⟨⟨v, rfl, ho⟩, hb⟩
  replace B := bel_trans B hb
  clear hb
  go_wp2_with fail
  refine (rlabels_c _ _ k0.out).mono ?_; rintro e y3 ⟨⟨v2, rfl, ho2⟩, hb⟩
  rw [HL.out] at ho2
  replace B := bel_trans B hb
  replace ho := ho.below hb
  clear hb
  obtain ⟨a, cap, rfl, hl⟩ := ho.lies
  obtain ⟨a2, cap2, rfl, hl2⟩ := ho2.lies
  go_wp2_with fail
  refine (same_is _ _ ls _ _ _ _ _ rfl rfl (by omega) hl hl2).mono ?_; rintro e y4 ⟨rfl, hb⟩
  replace B := bel_trans B hb
  clear hb ho ho2 hl hl2
  go_wp2_with fail
  refine (awake_yes _).mono ?_; rintro e y5 ⟨rfl, hb⟩
  replace B := bel_trans B hb
  clear hb
  go_wp2
  go_ret
  exact ⟨rfl, B⟩

theorem own : ownKnob Try.prog.godebug = none := by kernel_rfl

/-! ### The row's step -/
set_option maxRecDepth 100000 in
theorem lifted (os : Os) (started : os.Started) (H : Type) (enc : TypeId × Value → H) (F : Stop.Interp) :
    ReturnsInHanded {} Try.checked os 3 .any ((Rows.OpenSpec.upto Rows.namesSpec).pre6 enc Try.prog Try.f3 Rows.namesUptoRow.domain false) (((Rows.OpenSpec.upto Rows.namesSpec).at F).post enc Try.prog Try.f3 false true false false) := by
  refine returnsInHanded_of_cond (C := Try.checked) (s := Rows.OpenSpec.upto Rows.namesSpec) (k := Rows.uptoSmall) rfl own started (by kernel_rfl) Try.func3
    (OpenSpec.witness (enc := enc) (C := Try.checked) (s := Rows.OpenSpec.upto Rows.namesSpec) (k := Rows.uptoSmall) rfl false ⟨#[], #[.string ByteArray.empty, .string ByteArray.empty], []⟩ 8 (by kernel_rfl) (by kernel_rfl) (by kernel_rfl)
      (x := ([.lit (.string []), .lit (.string [])], [], [])) (by kernel_rfl) rfl (by kernel_rfl)) ?_
  intro W base args ds gs before hval0 hW _ hk _
  have hval : ∀ (j : Nat) t v, Try.f3.params[j]? = some t → args[j]? = some v → Value.okWide Try.prog W .any base t v := hval0
  have hW' := hW
  obtain ⟨p, q, hA0, hV, rfl, _, _⟩ := hW
  have hA : DataW.TrodAll enc Try.prog W 0 (fun _ => true) true Try.f3.params.toList args.toList ds p := hA0
  rw [Try.params3] at hA hval
  obtain ⟨v0, vs0, d0, ds0, p0, q0, hargs, rfl, rfl, h0, r0⟩ := trodAll_cons hA
  obtain ⟨v1, vs1, d1, ds1, p1, q1, rfl, rfl, rfl, h1, r1⟩ := trodAll_cons r0
  obtain ⟨rfl, rfl, rfl⟩ := trodAll_nil r1
  obtain rfl : args = #[v0, v1] := by cases args; simp_all
  obtain ⟨rfl, rfl⟩ := trodVars_none hV
  have hb := of_decide_eq_true hk
  simp only [List.append_nil, Rows.uptoBulkAll] at hb
  obtain ⟨a0, rfl, rfl, rfl, w0⟩ := open_string Try.underlying9 (hval 0 9 v0 rfl rfl) h0
  have l0 : a0.data.toList.length = a0.size := Array.length_toList
  obtain ⟨a1, rfl, rfl, rfl, w1⟩ := open_string Try.underlying9 (hval 1 9 v1 rfl rfl) h1
  have l1 : a1.data.toList.length = a1.size := Array.length_toList
  simp only [Rows.uptoBulk] at hb
  have s0 : a0.size ≤ 1048576 := by omega
  have s1 : a1.size ≤ 1048576 := by omega
  clear hA0 hval0 hb hk
  refine (walk a0 a1 W s0 s1).mono fun e W' ⟨he, bel⟩ => ?_
  subst he
  exact ⟨_, rfl, _, _, _, [], [], [], hW', trodAll_mk1 (shut_bool Try.underlying4 _), (trodAll_cons_mk (shut_string Try.underlying9 w0) (trodAll_cons_mk (shut_string Try.underlying9 w1) trodAll_mk0)), rfl, bel.frame _, fun h => by cases h⟩

/-- The given statement. -/
theorem proved : Rows.NamesUptoSaid :=
  OpenClaim.holds_of_cond 3 Try.f3 rfl rfl rfl rfl rfl rfl rfl ⟨rfl, rfl, rfl, rfl, rfl⟩ rfl rfl rfl rfl rfl (by kernel_rfl) Try.func3 (by kernel_rfl)
    (of_decide_eq_true (by kernel_rfl)) (by unfold Func.isWrapper; first | (rw [if_pos (by decide +kernel)]; kernel_rfl) | (rw [if_neg (by decide +kernel)]; exact ⟨rfl, rfl⟩))
    (fun os started H enc _ F => lifted os started H enc F)

end Go.Proofs.Ytcacfllfgbofeaa.names
namespace Go.Proofs.Ytcacfllfgbofeaa
theorem names_proved : Rows.NamesUptoSaid := names.proved
#print axioms names_proved
end Go.Proofs.Ytcacfllfgbofeaa
